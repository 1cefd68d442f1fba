/- Expressions as data, to whatever depth; the law's own measure, copy and comparison of them. -/
import Derived.Test.YthjmbbpakidkdaaRowExpr
import Derived.Test.YthjmbbpakidkdaaRowClause
import Derived.Test.YthjmbbpakidkdaaCntM
namespace Go.Proofs.Ythjmbbpakidkdaa
open Go.RowKit
set_option linter.unusedVariables false

/-- An expression of at most d storeys. -/
def Ex : Nat → Type
  | 0 => Empty
  | d + 1 => Int × Int × ByteArray × List (Ex d) × List (Ex d × Ex d)

def Ex.K {d : Nat} (e : Ex (d + 1)) : Int := e.1
def Ex.N {d : Nat} (e : Ex (d + 1)) : Int := e.2.1
def Ex.S {d : Nat} (e : Ex (d + 1)) : ByteArray := e.2.2.1
def Ex.E {d : Nat} (e : Ex (d + 1)) : List (Ex d) := e.2.2.2.1
def Ex.C {d : Nat} (e : Ex (d + 1)) : List (Ex d × Ex d) := e.2.2.2.2
def mkX {d : Nat} (k n : Int) (s : ByteArray) (es : List (Ex d)) (cs : List (Ex d × Ex d)) : Ex (d + 1) := (k, n, s, es, cs)

/-- Two by two. -/
def ClR {α : Type} (R : World → List Value → α → Prop) (w : World) (vs : List Value) (c : α × α) : Prop := ∃ p x, vs = p ++ x ∧ R w p c.1 ∧ R w x c.2
def ClO {α : Type} (O : World → List Value → α → List Nat → Prop) (w : World) (vs : List Value) (c : α × α) (fp : List Nat) : Prop := ∃ p x f g, vs = p ++ x ∧ fp = f ++ g ∧ O w p c.1 f ∧ O w x c.2 g
def ClP {α : Type} (P : α → Prop) (c : α × α) : Prop := P c.1 ∧ P c.2
def ClF {α : Type} (f : α → Nat) (c : α × α) : Nat := f c.1 + f c.2

/-- Five cells that tell an expression. -/
def ExR : (d : Nat) → World → List Value → Ex d → Prop
  | 0, _, _, _ => False
  | d + 1, w, vs, e => ∃ ve vc, vs = [.int .i64 e.K, .int .i64 e.N, .string e.S, ve, vc] ∧ RowOf 5 (ExR d) w ve e.E ∧ RowOf 10 (ClR (ExR d)) w vc e.C

/-- The same in blocks of one's own. -/
def ExO : (d : Nat) → World → List Value → Ex d → List Nat → Prop
  | 0, _, _, _, _ => False
  | d + 1, w, vs, e, fp => ∃ ve vc f g, vs = [.int .i64 e.K, .int .i64 e.N, .string e.S, ve, vc] ∧ fp = f ++ g ∧ OwnRow 5 44 (ExO d) w ve e.E f ∧ OwnRow 10 50 (ClO (ExO d)) w vc e.C g

/-- What every expression in memory is within. -/
def WfX : (d : Nat) → Ex d → Prop
  | 0, _ => False
  | d + 1, e => I64 e.K ∧ I64 e.N ∧ e.S.size ≤ maxLen ∧ WfRow (WfX d) e.E ∧ WfRow (ClP (WfX d)) e.C

/-- How great an expression is. -/
def szX : (d : Nat) → Ex d → Nat
  | 0, _ => 0
  | d + 1, e => e.S.size + szRow (szX d) e.E + szRow (ClF (szX d)) e.C

theorem ClR.lasts {α : Type} {R : World → List Value → α → Prop} (h : Lasts R) : Lasts (ClR R) := by
  rintro w w' vs c ⟨p, x, rfl, h1, h2⟩ hb
  exact ⟨p, x, rfl, h _ _ _ _ h1 hb, h _ _ _ _ h2 hb⟩
theorem ClO.lasts {α : Type} {O : World → List Value → α → List Nat → Prop} (h : LastsO O) : LastsO (ClO O) := by
  rintro w w' vs c fp ⟨p, x, f, g, rfl, rfl, h1, h2⟩ hb
  exact ⟨p, x, f, g, rfl, rfl, h _ _ _ _ _ h1 fun j hj => hb j (List.mem_append_left _ hj), h _ _ _ _ _ h2 fun j hj => hb j (List.mem_append_right _ hj)⟩
theorem ClO.reads {α : Type} {O : World → List Value → α → List Nat → Prop} {R : World → List Value → α → Prop} (h : Reads O R) : Reads (ClO O) (ClR R) := by
  rintro w vs c fp ⟨p, x, f, g, rfl, rfl, h1, h2⟩
  exact ⟨p, x, rfl, h _ _ _ _ h1, h _ _ _ _ h2⟩

theorem ExR.lasts : ∀ d, Lasts (ExR d) := by
  intro d
  induction d with
  | zero => intro w w' vs x h _; exact h.elim
  | succ d ih =>
    rintro w w' vs x ⟨ve, vc, rfl, h1, h2⟩ hb
    exact ⟨ve, vc, rfl, h1.later ih hb, h2.later (ClR.lasts ih) hb⟩
theorem ExO.lasts : ∀ d, LastsO (ExO d) := by
  intro d
  induction d with
  | zero => intro w w' vs x f h _; exact h.elim
  | succ d ih =>
    rintro w w' vs x fp ⟨ve, vc, f, g, rfl, rfl, h1, h2⟩ hb
    exact ⟨ve, vc, f, g, rfl, rfl, h1.frame ih fun j hj => hb j (List.mem_append_left _ hj), h2.frame (ClO.lasts ih) fun j hj => hb j (List.mem_append_right _ hj)⟩
theorem ExO.reads : ∀ d, Reads (ExO d) (ExR d) := by
  intro d
  induction d with
  | zero => intro w vs x f h; exact h.elim
  | succ d ih =>
    rintro w vs x fp ⟨ve, vc, f, g, rfl, rfl, h1, h2⟩
    exact ⟨ve, vc, rfl, h1.rd ih, h2.rd (ClO.reads ih)⟩

theorem ExR.shape : ∀ d w vs x, ExR d w vs x → ShExpr vs := by
  intro d w vs x h
  cases d with
  | zero => exact h.elim
  | succ d =>
    obtain ⟨ve, vc, rfl, h1, h2⟩ := h
    obtain ⟨a, c, rfl⟩ := h1.slice
    obtain ⟨a', c', rfl⟩ := h2.slice
    exact ⟨_, _, _, _, _, _, _, _, _, rfl⟩
theorem sh_two {p x : List Value} (h1 : ShExpr p) (h2 : ShExpr x) : ShClause (p ++ x) := by
  obtain ⟨_, _, _, _, _, _, _, _, _, rfl⟩ := h1
  obtain ⟨_, _, _, _, _, _, _, _, _, rfl⟩ := h2
  exact ⟨_, _, _, _, _, _, _, _, _, _, _, _, _, _, _, _, _, _, rfl⟩
theorem ClR.shape {α : Type} {R : World → List Value → α → Prop} (h : ∀ w vs x, R w vs x → ShExpr vs) : ∀ w vs c, ClR R w vs c → ShClause vs := by
  rintro w vs c ⟨p, x, rfl, h1, h2⟩
  exact sh_two (h _ _ _ h1) (h _ _ _ h2)
theorem ExO.shape : ∀ d w vs x f, ExO d w vs x f → ShExpr vs := fun d w vs x f h => ExR.shape d w vs x (ExO.reads d w vs x f h)
theorem ClO.shape {α : Type} {O : World → List Value → α → List Nat → Prop} (h : ∀ w vs x f, O w vs x f → ShExpr vs) : ∀ w vs c f, ClO O w vs c f → ShClause vs := by
  rintro w vs c fp ⟨p, x, f, g, rfl, rfl, h1, h2⟩
  exact sh_two (h _ _ _ _ h1) (h _ _ _ _ h2)

/-! The measure. -/

theorem lft_two (left : Int) (a b : Nat) (h : 0 ≤ left) : (lft left a < 0 → lft left (a + b) = -1) ∧ (¬ lft left a < 0 → lft (lft left a) b = lft left (a + b) ∧ 0 ≤ lft left a ∧ lft left a ≤ left) := by
  unfold lft
  refine ⟨fun h1 => ?_, fun h1 => ?_⟩
  · by_cases h2 : (a : Int) ≤ left
    · rw [if_pos h2] at h1; omega
    · rw [if_neg (by omega)]
  · by_cases h2 : (a : Int) ≤ left
    · rw [if_pos h2] at h1 ⊢
      refine ⟨?_, by omega, by omega⟩
      by_cases h3 : (b : Int) ≤ left - a
      · rw [if_pos h3, if_pos (by omega)]; omega
      · rw [if_neg h3, if_neg (by omega)]
    · rw [if_neg h2] at h1; omega

set_option maxHeartbeats 1000000 in
theorem szClause_of {α : Type} (R : World → List Value → α → Prop) (P : α → Prop) (f : α → Nat) (hR : Lasts R) (hS : ∀ w vs x, R w vs x → ShExpr vs) (H : SzEl 57 R P f) : SzEl 161 (ClR R) (ClP P) (ClF f) := by
  rintro vs ⟨c1, c2⟩ left w ⟨p, x, rfl, h1, h2⟩ ⟨q1, q2⟩ h0 hm
  obtain ⟨i0, i1, s2, a3, l3, c3, a4, l4, c4, rfl⟩ := hS _ _ _ h1
  obtain ⟨i5, i6, s7, a8, l8, c8, a9, l9, c9, rfl⟩ := hS _ _ _ h2
  have hA : Below w.heap.size w (w.alloc (Obj.cells #[.int .i64 i0, .int .i64 i1, .string s2, .slice a3 l3 c3, .slice a4 l4 c4, .int .i64 i5, .int .i64 i6, .string s7, .slice a8 l8 c8, .slice a9 l9 c9] 223)) := (Below.refl _ _).alloc (Nat.le_refl _) _
  obtain ⟨W, hW⟩ : ∃ W, W = w.alloc (Obj.cells #[.int .i64 i0, .int .i64 i1, .string s2, .slice a3 l3 c3, .slice a4 l4 c4, .int .i64 i5, .int .i64 i6, .string s7, .slice a8 l8 c8, .slice a9 l9 c9] 223) := ⟨_, rfl⟩
  have hWc : W.heap[w.heap.size]? = some (Obj.cells #[.int .i64 i0, .int .i64 i1, .string s2, .slice a3 l3 c3, .slice a4 l4 c4, .int .i64 i5, .int .i64 i6, .string s7, .slice a8 l8 c8, .slice a9 l9 c9] 223 (0, 0)) := by rw [hW]; exact heap_alloc_new w _
  rw [← hW] at hA
  have hC := H _ c1 left W (hR _ _ _ _ h1 hA) q1 h0 hm
  obtain ⟨L1, L2⟩ := lft_two left (f c1) (f c2) h0
  have e0 : ClF f (c1, c2) = f c1 + f c2 := rfl
  rw [e0]
  rw [hW] at hC
  have HW : Hid (W = _) := hW
  have HFR : Hid (∀ V : World, Below W.heap.size W V → R V _ c2) := fun V hV => hR _ _ _ _ (hR _ _ _ _ h2 hA) hV
  have HZ : Hid (w.heap.size < W.heap.size ∧ Below w.heap.size w W) := ⟨lt_row hWc, hA⟩
  have HWC : Hid _ := hWc
  clear hW hA hWc e0 h1 h2 q1
  obtain ⟨y, hy⟩ : ∃ y, lft left (f c1) = y := ⟨_, rfl⟩
  rw [hy] at hC L1 L2
  clear hy
  by_cases hneg : y < 0
  · have HF : Hid (lft left (f c1 + f c2) = -1) := L1 hneg
    clear L1 L2
    go_enter Try.func161, Try.ntmps161
    go_wp2_with fail
    refine hC.mono ?_
    clear hC
    rintro e w1 ⟨rfl, hb1⟩
    rw [← HW.out] at hb1
    have hb2 : Below w.heap.size w w1 := HZ.out.2.trans (hb1.mono HZ.out.2.size)
    clear hb1
    go_wp2
    go_ret
    exact ⟨tret1 HF.out.symm, hb2⟩
  · obtain ⟨E1, E2, E3⟩ := L2 hneg
    clear L1 L2
    obtain ⟨z, hz⟩ : ∃ z, lft y (f c2) = z := ⟨_, rfl⟩
    rw [hz] at E1
    have HE : Hid (z = lft left (f c1 + f c2)) := E1
    have HZN : Hid (z < 0 → z = -1) := fun h => by
      rw [← hz] at h ⊢
      unfold lft at h ⊢
      split at h
      · omega
      · rename_i h4; rw [if_neg h4]
    have hm2 : y ≤ 1048576 := by omega
    go_enter Try.func161, Try.ntmps161
    go_wp2_with fail
    refine hC.mono ?_
    clear hC
    rintro e w1 ⟨rfl, hb1⟩
    rw [← HW.out] at hb1
    have hD := H _ c2 y w1 (HFR.out w1 hb1) q2 E2 hm2
    rw [hz] at hD
    have hh := (hb1.block _ HZ.out.1).trans HWC.out
    have f5 : w1.cell? ⟨w.heap.size, 5, none⟩ = some (.int .i64 i5) := by rw [cell_of_row w1 _ 5 _ _ _ hh]; rfl
    have f6 : w1.cell? ⟨w.heap.size, 6, none⟩ = some (.int .i64 i6) := by rw [cell_of_row w1 _ 6 _ _ _ hh]; rfl
    have f7 : w1.cell? ⟨w.heap.size, 7, none⟩ = some (.string s7) := by rw [cell_of_row w1 _ 7 _ _ _ hh]; rfl
    have f8 : w1.cell? ⟨w.heap.size, 8, none⟩ = some (.slice a8 l8 c8) := by rw [cell_of_row w1 _ 8 _ _ _ hh]; rfl
    have f9 : w1.cell? ⟨w.heap.size, 9, none⟩ = some (.slice a9 l9 c9) := by rw [cell_of_row w1 _ 9 _ _ _ hh]; rfl
    have hb2 : Below w.heap.size w w1 := HZ.out.2.trans (hb1.mono HZ.out.2.size)
    clear hb1 hh hz E1
    go_wp2_with fail
    refine hD.mono ?_
    clear hD f5 f6 f7 f8 f9
    rintro e w2 ⟨rfl, hb3⟩
    have hb4 : Below w.heap.size w w2 := hb2.trans (hb3.mono hb2.size)
    clear hb3 hb2
    by_cases hn2 : z < 0
    · have e1 := HZN.out hn2
      subst e1
      go_wp2
      go_ret
      exact ⟨tret1 HE.out, hb4⟩
    · go_wp2
      go_ret
      exact ⟨tret1 HE.out, hb4⟩

set_option maxHeartbeats 1000000 in
theorem szExpr_of (d : Nat) (HE : SzLs 105 5 (ExR d) (WfX d) (szX d)) (HC : SzLs 106 10 (ClR (ExR d)) (ClP (WfX d)) (ClF (szX d))) : SzEl 57 (ExR (d + 1)) (WfX (d + 1)) (szX (d + 1)) := by
  rintro vs x left w ⟨ve, vc, rfl, h1, h2⟩ ⟨w1, w2, w3, w4, w5⟩ h0 hm
  obtain ⟨a3, c3, rfl⟩ := h1.slice
  obtain ⟨a4, c4, rfl⟩ := h2.slice
  obtain ⟨l3, e3⟩ : ∃ l, x.E.length = l := ⟨_, rfl⟩
  obtain ⟨l4, e4⟩ : ∃ l, x.C.length = l := ⟨_, rfl⟩
  rw [e3] at h1 ⊢
  rw [e4] at h2 ⊢
  have hs : x.S.size ≤ 9223372036854775807 := by unfold maxLen at w3; omega
  obtain ⟨W, hW⟩ : ∃ W, W = w.alloc (Obj.cells #[.int .i64 x.K, .int .i64 x.N, .string x.S, .slice a3 l3 c3, .slice a4 l4 c4] 66) := ⟨_, rfl⟩
  have hA : Below w.heap.size w W := by rw [hW]; exact (Below.refl _ _).alloc (Nat.le_refl _) _
  have hWc : W.heap[w.heap.size]? = some (Obj.cells #[.int .i64 x.K, .int .i64 x.N, .string x.S, .slice a3 l3 c3, .slice a4 l4 c4] 66 (0, 0)) := by rw [hW]; exact heap_alloc_new w _
  obtain ⟨A, hA0⟩ : ∃ A, szRow (szX d) x.E = A := ⟨_, rfl⟩
  obtain ⟨B, hB0⟩ : ∃ B, szRow (ClF (szX d)) x.C = B := ⟨_, rfl⟩
  have e0 : szX (d + 1) x = x.S.size + A + B := by rw [← hA0, ← hB0]; rfl
  rw [e0]
  have HEE := HE _ _ (left - x.S.size) W (h1.later (ExR.lasts d) hA) w4
  have HCC : Hid (∀ V : World, Below W.heap.size W V → ∀ l : Int, 0 ≤ l → l ≤ 1048576 → _) := fun V hV l p1 p2 => HC _ _ l V ((h2.later (ClR.lasts (ExR.lasts d)) hA).later (ClR.lasts (ExR.lasts d)) hV) w5 p1 p2
  rw [hA0] at HEE
  rw [hB0] at HCC
  obtain ⟨K, hK⟩ : ∃ K, x.K = K := ⟨_, rfl⟩
  obtain ⟨N, hN⟩ : ∃ N, x.N = N := ⟨_, rfl⟩
  obtain ⟨S, hS⟩ : ∃ S, x.S = S := ⟨_, rfl⟩
  rw [hK, hN, hS] at hW hWc
  rw [hS] at HEE hs
  rw [hK, hN, hS]
  clear e0 hA0 hB0 w1 w2 w3 w4 w5 h1 h2 e3 e4 HE HC hK hN hS
  by_cases hlt : left < S.size
  · have HF : Hid ((-1 : Int) = lft left (S.size + A + B)) := by unfold lft; rw [if_neg (by omega)]; exact rfl
    rw [hW] at hA
    clear HEE hWc HCC
    go_enter Try.func57, Try.ntmps57
    go_wp2
    go_ret
    exact ⟨tret1 HF.out, hA⟩
  · have hC := HEE (by omega) (by omega)
    obtain ⟨L1, L2⟩ := lft_two (left - S.size) A B (by omega)
    have L0 : lft (left - S.size) (A + B) = lft left (S.size + A + B) := by
      unfold lft
      by_cases h : ((A + B : Nat) : Int) ≤ left - S.size
      · rw [if_pos h, if_pos (by omega)]; omega
      · rw [if_neg h, if_neg (by omega)]
    rw [L0] at L1 L2
    rw [hW] at hC
    have HW : Hid (W = _) := hW
    have HZ : Hid (w.heap.size < W.heap.size ∧ Below w.heap.size w W) := ⟨lt_row hWc, hA⟩
    have HWC : Hid _ := hWc
    clear hW hA hWc HEE L0
    obtain ⟨y, hy⟩ : ∃ y, lft (left - S.size) A = y := ⟨_, rfl⟩
    rw [hy] at hC L1 L2
    clear hy
    by_cases hneg : y < 0
    · have HF : Hid (lft left (S.size + A + B) = -1) := L1 hneg
      clear L1 L2
      go_enter Try.func57, Try.ntmps57
      go_wp2_with fail
      refine hC.mono ?_
      clear hC
      rintro e w1 ⟨rfl, hb1⟩
      rw [← HW.out] at hb1
      have hb2 : Below w.heap.size w w1 := HZ.out.2.trans (hb1.mono HZ.out.2.size)
      clear hb1
      go_wp2
      go_ret
      exact ⟨tret1 HF.out.symm, hb2⟩
    · obtain ⟨E1, E2, E3⟩ := L2 hneg
      clear L1 L2
      obtain ⟨z, hz⟩ : ∃ z, lft y B = z := ⟨_, rfl⟩
      rw [hz] at E1
      have HE : Hid (z = lft left (S.size + A + B)) := E1
      have HZN : Hid (z < 0 → z = -1) := fun h => by
        rw [← hz] at h ⊢
        unfold lft at h ⊢
        split at h
        · omega
        · rename_i h4; rw [if_neg h4]
      have hm2 : y ≤ 1048576 := by omega
      go_enter Try.func57, Try.ntmps57
      go_wp2_with fail
      refine hC.mono ?_
      clear hC
      rintro e w1 ⟨rfl, hb1⟩
      rw [← HW.out] at hb1
      have hD := HCC.out w1 hb1 y E2 hm2
      rw [hz] at hD
      have hh := (hb1.block _ HZ.out.1).trans HWC.out
      have f4 : w1.cell? ⟨w.heap.size, 4, none⟩ = some (.slice a4 l4 c4) := by rw [cell_of_row w1 _ 4 _ _ _ hh]; rfl
      have hb2 : Below w.heap.size w w1 := HZ.out.2.trans (hb1.mono HZ.out.2.size)
      clear hb1 hh hz E1 HCC
      go_wp2_with fail
      refine hD.mono ?_
      clear hD f4
      rintro e w2 ⟨rfl, hb3⟩
      have hb4 : Below w.heap.size w w2 := hb2.trans (hb3.mono hb2.size)
      clear hb3 hb2
      by_cases hn2 : z < 0
      · have e1 := HZN.out hn2
        subst e1
        go_wp2
        go_ret
        exact ⟨tret1 HE.out, hb4⟩
      · go_wp2
        go_ret
        exact ⟨tret1 HE.out, hb4⟩

theorem szExpr_any : ∀ d, SzEl 57 (ExR d) (WfX d) (szX d) := by
  intro d
  induction d with
  | zero => intro vs x left w h; exact h.elim
  | succ d ih => exact szExpr_of d (szExprS_of _ _ _ (ExR.lasts d) (ExR.shape d) ih) (szClauseS_of _ _ _ (ClR.lasts (ExR.lasts d)) (ClR.shape (ExR.shape d)) (szClause_of _ _ _ (ExR.lasts d) (ExR.shape d) ih))

end Go.Proofs.Ythjmbbpakidkdaa

/- The law's own copy and comparison of expressions: the walks. -/
namespace Go.Proofs.Ythjmbbpakidkdaa
open Go.RowKit
set_option linter.unusedVariables false

/-- Of all that was there only the blocks of a stretch are turned. -/
structure Kept (p q : Nat) (w w' : World) : Prop where
  os : w'.os = w.os
  tape : w'.tape = w.tape
  output : w'.output = w.output
  size : w.heap.size ≤ w'.heap.size
  block : ∀ g, g < w.heap.size → g < p ∨ q ≤ g → w'.heap[g]? = w.heap[g]?

theorem Kept.refl (p q : Nat) (w : World) : Kept p q w w := ⟨rfl, rfl, rfl, Nat.le_refl _, fun _ _ _ => rfl⟩
theorem Kept.trans {p q : Nat} {a b c : World} (h : Kept p q a b) (k : Kept p q b c) : Kept p q a c :=
  ⟨k.os.trans h.os, k.tape.trans h.tape, k.output.trans h.output, Nat.le_trans h.size k.size, fun g h1 h2 => (k.block g (Nat.lt_of_lt_of_le h1 h.size) h2).trans (h.block g h1 h2)⟩
theorem Kept.drew {p q : Nat} {a w : World} (h : Kept p q a w) : Kept p q a w.drew := h.trans ⟨rfl, rfl, rfl, Nat.le_refl _, fun _ _ _ => rfl⟩
theorem Kept.set {p q : Nat} {a w : World} {g o : Nat} {v : Value} (hg : p ≤ g ∧ g < q) (h : Kept p q a w) : Kept p q a (w.setCell ⟨g, o, none⟩ v) := by
  have b := (Below.refl g w).setCell (p := ⟨g, o, none⟩) (Nat.le_refl g) v
  exact h.trans ⟨b.os, b.tape, b.output, b.size, fun x h1 h2 => heap_setCell_other _ _ _ _ (by simp; omega)⟩
theorem Kept.of_below {p q : Nat} {a b : World} (h : Below a.heap.size a b) : Kept p q a b := ⟨h.os, h.tape, h.output, h.size, fun g hg _ => h.block g hg⟩
theorem Kept.below {p q B : Nat} {a b : World} (h : Kept p q a b) (hp : B ≤ p) (hB : B ≤ a.heap.size) : Below B a b := ⟨h.os, h.tape, h.output, h.size, fun g hg => h.block g (by omega) (.inl (by omega))⟩

theorem heap_three (w : World) (o1 o2 o3 : Obj) : (((w.alloc o1).alloc o2).alloc o3).heap[w.heap.size]? = some o1 ∧ (((w.alloc o1).alloc o2).alloc o3).heap[w.heap.size + 1]? = some o2 ∧ (((w.alloc o1).alloc o2).alloc o3).heap[w.heap.size + 1 + 1]? = some o3 := by
  have h1 := heap_alloc_new w o1
  have h2 := heap_alloc_new (w.alloc o1) o2
  have h3 := heap_alloc_new ((w.alloc o1).alloc o2) o3
  have z1 : (w.alloc o1).heap.size = w.heap.size + 1 := by simp
  have z2 : ((w.alloc o1).alloc o2).heap.size = w.heap.size + 1 + 1 := by simp
  rw [z1] at h2
  rw [z2] at h3
  refine ⟨?_, ?_, h3⟩
  · rw [Below.heap_alloc _ _ _ (by omega), Below.heap_alloc _ _ _ (by omega)]; exact h1
  · rw [Below.heap_alloc _ _ _ (by omega)]; exact h2

theorem fresh_two {B : Nat} {w1 V1 w2 Z : World} {f g : List Nat} {m : Nat} (h1 : Fresh m w1 f) (h2 : Fresh V1.heap.size w2 g) (z1 : w1.heap.size ≤ V1.heap.size) (z2 : V1.heap.size ≤ w2.heap.size) (z3 : w2.heap.size ≤ Z.heap.size) (hB : B ≤ m) (hV : B ≤ V1.heap.size) : Fresh B Z (f ++ g) := by
  refine ⟨List.nodup_append.2 ⟨h1.1, h2.1, fun a ha b hb e => by have := (h1.2 a ha).2; have := (h2.2 b hb).1; omega⟩, fun x hx => ?_⟩
  rcases List.mem_append.1 hx with hx | hx
  · have := h1.2 x hx; omega
  · have := h2.2 x hx; omega

set_option maxRecDepth 100000 in
set_option maxHeartbeats 2000000 in
theorem toClause_of {α : Type} (R : World → List Value → α → Prop) (O : World → List Value → α → List Nat → Prop) (P : α → Prop) (f : α → Nat) (hR : Lasts R) (hO : LastsO O) (hS : ∀ w vs x, R w vs x → ShExpr vs) (hSO : ∀ w vs x fp, O w vs x fp → ShExpr vs) (H : ToEl 59 R O P f) : ToEl 162 (ClR R) (ClO O) (ClP P) (ClF f) := by
  rintro vs ⟨c1, c2⟩ w ⟨p, x, rfl, h1, h2⟩ ⟨q1, q2⟩ hz
  have hz' : f c1 + f c2 ≤ 1048576 := hz
  obtain ⟨i0, i1, s2, a3, l3, c3, a4, l4, c4, rfl⟩ := hS _ _ _ h1
  obtain ⟨i5, i6, s7, a8, l8, c8, a9, l9, c9, rfl⟩ := hS _ _ _ h2
  obtain ⟨W, hW⟩ : ∃ W, W = ((w.alloc (Obj.cells #[.int .i64 i0, .int .i64 i1, .string s2, .slice a3 l3 c3, .slice a4 l4 c4, .int .i64 i5, .int .i64 i6, .string s7, .slice a8 l8 c8, .slice a9 l9 c9] 223)).alloc (.cells #[.int .i64 0, .int .i64 0, .string ⟨#[]⟩, .slice none 0 0, .slice none 0 0, .int .i64 0, .int .i64 0, .string ⟨#[]⟩, .slice none 0 0, .slice none 0 0] 50)).alloc (.cells #[.int .i64 0, .int .i64 0, .string ⟨#[]⟩, .slice none 0 0, .slice none 0 0, .int .i64 0, .int .i64 0, .string ⟨#[]⟩, .slice none 0 0, .slice none 0 0] 50) := ⟨_, rfl⟩
  obtain ⟨nA, nB, nC⟩ := heap_three w (Obj.cells #[.int .i64 i0, .int .i64 i1, .string s2, .slice a3 l3 c3, .slice a4 l4 c4, .int .i64 i5, .int .i64 i6, .string s7, .slice a8 l8 c8, .slice a9 l9 c9] 223) (.cells #[.int .i64 0, .int .i64 0, .string ⟨#[]⟩, .slice none 0 0, .slice none 0 0, .int .i64 0, .int .i64 0, .string ⟨#[]⟩, .slice none 0 0, .slice none 0 0] 50) (.cells #[.int .i64 0, .int .i64 0, .string ⟨#[]⟩, .slice none 0 0, .slice none 0 0, .int .i64 0, .int .i64 0, .string ⟨#[]⟩, .slice none 0 0, .slice none 0 0] 50)
  rw [← hW] at nA nB nC
  have hWb : Below w.heap.size w W := by rw [hW]; exact (((Below.refl _ _).alloc (Nat.le_refl _) _).alloc (by simp) _).alloc (by simp; omega) _
  have hWs : W.heap.size = w.heap.size + 1 + 1 + 1 := by rw [hW]; simp
  have hC := H _ c1 W (hR _ _ _ _ h1 hWb) q1 (by omega)
  have HR2 : Hid (∀ V : World, Below w.heap.size w V → R V _ c2) := fun V hV => hR _ _ _ _ h2 hV
  rw [hW] at hC
  have HW : Hid (W = _) := hW
  have HN : Hid (_ ∧ _ ∧ _) := ⟨nA, nB, nC⟩
  clear hW h1 h2 nA nB nC q1
  go_enter Try.func162, Try.ntmps162
  go_wp2_with fail
  refine hC.mono ?_
  clear hC
  rintro e w1 ⟨vs1, fp1, rfl, hown1, hfr1, hb1⟩
  rw [← HW.out] at hfr1 hb1
  obtain ⟨yi0, yi1, ys2, ya3, yl3, yc3, ya4, yl4, yc4, rfl⟩ := hSO _ _ _ _ hown1
  obtain ⟨nA, nB, nC⟩ := HN.out
  have nA1 := (hb1.block _ (by omega)).trans nA
  have nB1 := (hb1.block _ (by omega)).trans nB
  have nC1 := (hb1.block _ (by omega)).trans nC
  obtain ⟨V1, hV1⟩ : ∃ V, V = setL w1 (w.heap.size + 1 + 1) 0 [.int .i64 yi0, .int .i64 yi1, .string ys2, .slice ya3 yl3 yc3, .slice ya4 yl4 yc4] := ⟨_, rfl⟩
  have hzV : V1.heap.size = w1.heap.size := by rw [hV1]; exact setL_size _ _ _ _
  have hkV : ∀ j, j ≠ w.heap.size + 1 + 1 → V1.heap[j]? = w1.heap[j]? := fun j hj => by rw [hV1]; exact setL_other _ _ _ _ _ hj
  have hbV : Below (w.heap.size + 1 + 1) w1 V1 := by rw [hV1]; exact setL_below _ _ _ _ _ (Nat.le_refl _)
  have nAV := (hkV _ (by omega)).trans nA1
  have nBV := (hkV _ (by omega)).trans nB1
  have nCV : V1.heap[w.heap.size + 1 + 1]? = some (.cells #[.int .i64 yi0, .int .i64 yi1, .string ys2, .slice ya3 yl3 yc3, .slice ya4 yl4 yc4, .int .i64 0, .int .i64 0, .string ⟨#[]⟩, .slice none 0 0, .slice none 0 0] 50 (0, 0)) := by rw [hV1]; exact setL_row _ _ _ _ _ _ nC1
  have hbw1 : Below w.heap.size w w1 := hWb.trans (hb1.mono hWb.size)
  have hbwV : Below w.heap.size w V1 := hbw1.trans (hbV.mono (by omega))
  have hown1V : O V1 _ c1 fp1 := hO _ _ _ _ _ hown1 fun g hg => hkV g (by have := (hfr1.2 g hg).1; omega)
  have hz1 := hb1.size
  have hD := H _ c2 V1 (HR2.out V1 hbwV) q2 (by omega)
  rw [hV1] at hD
  have HV1 : Hid (V1 = _) := hV1
  have HO1 : Hid (O V1 _ c1 fp1) := hown1V
  have HB1 : Hid (Below w.heap.size w V1 ∧ Fresh W.heap.size w1 fp1 ∧ V1.heap.size = w1.heap.size) := ⟨hbwV, hfr1, hzV⟩
  have HNV : Hid (_ ∧ _ ∧ _) := ⟨nAV, nBV, nCV⟩
  have hcell : ∀ j u, (#[.int .i64 i0, .int .i64 i1, .string s2, .slice a3 l3 c3, .slice a4 l4 c4, .int .i64 i5, .int .i64 i6, .string s7, .slice a8 l8 c8, .slice a9 l9 c9] : Array Value)[j]? = some u → w1.cell? ⟨w.heap.size, j, none⟩ = some u := fun j u hu => by rw [cell_of_row w1 _ _ _ _ _ nA1]; exact hu
  have f5 := hcell 5 _ rfl
  have f6 := hcell 6 _ rfl
  have f7 := hcell 7 _ rfl
  have f8 := hcell 8 _ rfl
  have f9 := hcell 9 _ rfl
  have ccell : ∀ j u, (#[.int .i64 0, .int .i64 0, .string ⟨#[]⟩, .slice none 0 0, .slice none 0 0, .int .i64 0, .int .i64 0, .string ⟨#[]⟩, .slice none 0 0, .slice none 0 0] : Array Value)[j]? = some u → w1.cell? ⟨w.heap.size + 1 + 1, j, none⟩ = some u := fun j u hu => by rw [cell_of_row w1 _ _ _ _ _ nC1]; exact hu
  have g0 := ccell 0 _ rfl
  have g1 := ccell 1 _ rfl
  have g2 := ccell 2 _ rfl
  have g3 := ccell 3 _ rfl
  have g4 := ccell 4 _ rfl
  have hfz : ∀ j, w1.frozen? ⟨w.heap.size + 1 + 1, j, none⟩ = false := fun j => frozen_of_row w1 _ _ _ _ nC1
  have z0 := hfz 0
  have z1 := hfz 1
  have z2 := hfz 2
  have z3 := hfz 3
  have z4 := hfz 4
  clear hV1 nA1 nB1 nC1 nA nB nC nAV nBV nCV hbw1 hbwV hown1V hown1 hfr1 hkV hbV hcell ccell hfz HN HR2 hb1 hzV
  go_wp2_with fail
  refine hD.mono ?_
  clear hD f5 f6 f7 f8 f9 g0 g1 g2 g3 g4 z0 z1 z2 z3 z4
  rintro e w2 ⟨vs2, fp2, rfl, hown2, hfr2, hb2⟩
  have hfr2' : Fresh V1.heap.size w2 fp2 := by rw [HV1.out]; exact hfr2
  have hb2' : Below V1.heap.size V1 w2 := by rw [HV1.out]; exact hb2
  clear hfr2 hb2
  obtain ⟨xi0, xi1, xs2, xa3, xl3, xc3, xa4, xl4, xc4, rfl⟩ := hSO _ _ _ _ hown2
  obtain ⟨nAV, nBV, nCV⟩ := HNV.out
  have hzB := HB1.out.2.2
  have nB2 := (hb2'.block _ (lt_row nBV)).trans nBV
  have nC2 := (hb2'.block _ (lt_row nCV)).trans nCV
  have hz2 := hb2'.size
  have HFIN : Hid (∀ Z, Kept (w.heap.size + 1) (w.heap.size + 1 + 1 + 1) w2 Z → ClO O Z [.int .i64 yi0, .int .i64 yi1, .string ys2, .slice ya3 yl3 yc3, .slice ya4 yl4 yc4, .int .i64 xi0, .int .i64 xi1, .string xs2, .slice xa3 xl3 xc3, .slice xa4 xl4 xc4] (c1, c2) (fp1 ++ fp2) ∧ Fresh w.heap.size Z (fp1 ++ fp2) ∧ Below w.heap.size w Z) := fun Z hZ => by
    have hf1 := HB1.out.2.1
    have hzZ := hZ.size
    refine ⟨⟨[.int .i64 yi0, .int .i64 yi1, .string ys2, .slice ya3 yl3 yc3, .slice ya4 yl4 yc4], [.int .i64 xi0, .int .i64 xi1, .string xs2, .slice xa3 xl3 xc3, .slice xa4 xl4 xc4], fp1, fp2, rfl, rfl, ?_, ?_⟩, ?_, ?_⟩
    · refine hO _ _ _ _ _ HO1.out fun g hg => ?_
      have := hf1.2 g hg
      exact (hZ.block g (by omega) (.inr (by omega))).trans (hb2'.block g (by omega))
    · exact hO _ _ _ _ _ hown2 fun g hg => hZ.block g (hfr2'.2 g hg).2 (.inr (by have := (hfr2'.2 g hg).1; omega))
    · exact fresh_two hf1 hfr2' (by omega) hz2 hzZ (by omega) (by omega)
    · have hbw2 : Below w.heap.size w w2 := HB1.out.1.trans (hb2'.mono HB1.out.1.size)
      exact hbw2.trans (hZ.below (by omega) hbw2.size)
  have bcell : ∀ j u, (#[.int .i64 0, .int .i64 0, .string ⟨#[]⟩, .slice none 0 0, .slice none 0 0, .int .i64 0, .int .i64 0, .string ⟨#[]⟩, .slice none 0 0, .slice none 0 0] : Array Value)[j]? = some u → w2.cell? ⟨w.heap.size + 1, j, none⟩ = some u := fun j u hu => by rw [cell_of_row w2 _ _ _ _ _ nB2]; exact hu
  have ccell : ∀ j u, (#[.int .i64 yi0, .int .i64 yi1, .string ys2, .slice ya3 yl3 yc3, .slice ya4 yl4 yc4, .int .i64 0, .int .i64 0, .string ⟨#[]⟩, .slice none 0 0, .slice none 0 0] : Array Value)[j]? = some u → w2.cell? ⟨w.heap.size + 1 + 1, j, none⟩ = some u := fun j u hu => by rw [cell_of_row w2 _ _ _ _ _ nC2]; exact hu
  have hfB : ∀ j, w2.frozen? ⟨w.heap.size + 1, j, none⟩ = false := fun j => frozen_of_row w2 _ _ _ _ nB2
  have hfC : ∀ j, w2.frozen? ⟨w.heap.size + 1 + 1, j, none⟩ = false := fun j => frozen_of_row w2 _ _ _ _ nC2
  have b0 := bcell 0 _ rfl
  have y0 := hfB 0
  have g0 := ccell 0 _ rfl
  have z0 := hfC 0
  have b1 := bcell 1 _ rfl
  have y1 := hfB 1
  have g1 := ccell 1 _ rfl
  have z1 := hfC 1
  have b2 := bcell 2 _ rfl
  have y2 := hfB 2
  have g2 := ccell 2 _ rfl
  have z2 := hfC 2
  have b3 := bcell 3 _ rfl
  have y3 := hfB 3
  have g3 := ccell 3 _ rfl
  have z3 := hfC 3
  have b4 := bcell 4 _ rfl
  have y4 := hfB 4
  have g4 := ccell 4 _ rfl
  have z4 := hfC 4
  have b5 := bcell 5 _ rfl
  have y5 := hfB 5
  have g5 := ccell 5 _ rfl
  have z5 := hfC 5
  have b6 := bcell 6 _ rfl
  have y6 := hfB 6
  have g6 := ccell 6 _ rfl
  have z6 := hfC 6
  have b7 := bcell 7 _ rfl
  have y7 := hfB 7
  have g7 := ccell 7 _ rfl
  have z7 := hfC 7
  have b8 := bcell 8 _ rfl
  have y8 := hfB 8
  have g8 := ccell 8 _ rfl
  have z8 := hfC 8
  have b9 := bcell 9 _ rfl
  have y9 := hfB 9
  have g9 := ccell 9 _ rfl
  have z9 := hfC 9
  clear nB2 nC2 nAV nBV nCV hown2 hfr2' hb2' HO1 HB1 HNV bcell ccell hfB hfC
  go_wp2_with fail
  refine bodyPost_ret (v := .agg #[.int .i64 yi0, .int .i64 yi1, .string ys2, .slice ya3 yl3 yc3, .slice ya4 yl4 yc4, .int .i64 xi0, .int .i64 xi1, .string xs2, .slice xa3 xl3 xc3, .slice xa4 xl4 xc4]) (by first | (simp [results, Try.results162, go_sem, b0, b1, b2, b3, b4, b5, b6, b7, b8, b9]; done) | (simp [results, Try.results162, go_sem, b0, b1, b2, b3, b4, b5, b6, b7, b8, b9]; rfl)) rfl ⟨[.int .i64 yi0, .int .i64 yi1, .string ys2, .slice ya3 yl3 yc3, .slice ya4 yl4 yc4, .int .i64 xi0, .int .i64 xi1, .string xs2, .slice xa3 xl3 xc3, .slice xa4 xl4 xc4], _, rfl, HFIN.out _ ?_⟩
  repeat (first | with_reducible exact Kept.refl _ _ _ | with_reducible refine Kept.drew ?_ | (with_reducible refine Kept.set ?_ ?_; omega))

end Go.Proofs.Ythjmbbpakidkdaa

/- The law's own copy and comparison of expressions: the rest of the walks. -/
namespace Go.Proofs.Ythjmbbpakidkdaa
open Go.RowKit
set_option linter.unusedVariables false

set_option maxRecDepth 100000 in
set_option maxHeartbeats 2000000 in
theorem toExpr_of (d : Nat) (HE : ToLs 107 5 44 (ExR d) (ExO d) (WfX d) (szX d)) (HC : ToLs 108 10 50 (ClR (ExR d)) (ClO (ExO d)) (ClP (WfX d)) (ClF (szX d))) : ToEl 59 (ExR (d + 1)) (ExO (d + 1)) (WfX (d + 1)) (szX (d + 1)) := by
  rintro vs x w ⟨ve, vc, rfl, h1, h2⟩ ⟨_, _, _, w4, w5⟩ hz
  have hz' : x.S.size + szRow (szX d) x.E + szRow (ClF (szX d)) x.C ≤ 1048576 := hz
  obtain ⟨a3, c3, rfl⟩ := h1.slice
  obtain ⟨a4, c4, rfl⟩ := h2.slice
  obtain ⟨l3, e3⟩ : ∃ l, x.E.length = l := ⟨_, rfl⟩
  obtain ⟨l4, e4⟩ : ∃ l, x.C.length = l := ⟨_, rfl⟩
  rw [e3] at h1 ⊢
  rw [e4] at h2 ⊢
  obtain ⟨K, hK⟩ : ∃ K, x.K = K := ⟨_, rfl⟩
  obtain ⟨N, hN⟩ : ∃ N, x.N = N := ⟨_, rfl⟩
  obtain ⟨S, hS⟩ : ∃ S, x.S = S := ⟨_, rfl⟩
  have HX : Hid (x.K = K ∧ x.N = N ∧ x.S = S) := ⟨hK, hN, hS⟩
  rw [hK, hN, hS]
  obtain ⟨W, hW⟩ : ∃ W, W = ((w.alloc (Obj.cells #[.int .i64 K, .int .i64 N, .string S, .slice a3 l3 c3, .slice a4 l4 c4] 66)).alloc (.cells #[.int .i64 0, .int .i64 0, .string ⟨#[]⟩, .slice none 0 0, .slice none 0 0] 44)).alloc (.cells #[.int .i64 K, .int .i64 N, .string S, .slice none 0 0, .slice none 0 0] 44) := ⟨_, rfl⟩
  obtain ⟨nA, nB, nC⟩ := heap_three w (Obj.cells #[.int .i64 K, .int .i64 N, .string S, .slice a3 l3 c3, .slice a4 l4 c4] 66) (.cells #[.int .i64 0, .int .i64 0, .string ⟨#[]⟩, .slice none 0 0, .slice none 0 0] 44) (.cells #[.int .i64 K, .int .i64 N, .string S, .slice none 0 0, .slice none 0 0] 44)
  rw [← hW] at nA nB nC
  have hWb : Below w.heap.size w W := by rw [hW]; exact (((Below.refl _ _).alloc (Nat.le_refl _) _).alloc (by simp) _).alloc (by simp; omega) _
  have hWs : W.heap.size = w.heap.size + 1 + 1 + 1 := by rw [hW]; simp
  have hC := HE _ _ W (h1.later (ExR.lasts d) hWb) w4 (by omega)
  have HR2 : Hid (∀ V : World, Below w.heap.size w V → _) := fun V hV => HC _ _ V (h2.later (ClR.lasts (ExR.lasts d)) hV) w5 (by omega)
  rw [hW] at hC
  have HW : Hid (W = _) := hW
  have HN : Hid (_ ∧ _ ∧ _) := ⟨nA, nB, nC⟩
  clear hW h1 h2 nA nB nC w4 w5 hz hz' HE HC hK hN hS e3 e4
  go_enter Try.func59, Try.ntmps59
  go_wp2_with fail
  refine hC.mono ?_
  clear hC
  rintro e w1 ⟨ya3, yl3, yc3, fp1, rfl, hown1, hfr1, hb1⟩
  rw [← HW.out] at hfr1 hb1
  obtain ⟨nA, nB, nC⟩ := HN.out
  have nA1 := (hb1.block _ (by omega)).trans nA
  have nB1 := (hb1.block _ (by omega)).trans nB
  have nC1 := (hb1.block _ (by omega)).trans nC
  obtain ⟨V1, hV1⟩ : ∃ V, V = w1.setCell ⟨w.heap.size + 1 + 1, 3, none⟩ (.slice ya3 yl3 yc3) := ⟨_, rfl⟩
  have hV1' : V1 = setL w1 (w.heap.size + 1 + 1) 3 [.slice ya3 yl3 yc3] := hV1
  have hzV : V1.heap.size = w1.heap.size := by rw [hV1']; exact setL_size _ _ _ _
  have hkV : ∀ j, j ≠ w.heap.size + 1 + 1 → V1.heap[j]? = w1.heap[j]? := fun j hj => by rw [hV1']; exact setL_other _ _ _ _ _ hj
  have hbV : Below (w.heap.size + 1 + 1) w1 V1 := by rw [hV1']; exact setL_below _ _ _ _ _ (Nat.le_refl _)
  have nAV := (hkV _ (by omega)).trans nA1
  have nBV := (hkV _ (by omega)).trans nB1
  have nCV : V1.heap[w.heap.size + 1 + 1]? = some (.cells #[.int .i64 K, .int .i64 N, .string S, .slice ya3 yl3 yc3, .slice none 0 0] 44 (0, 0)) := by rw [hV1']; exact setL_row _ _ _ _ _ _ nC1
  have hbw1 : Below w.heap.size w w1 := hWb.trans (hb1.mono hWb.size)
  have hbwV : Below w.heap.size w V1 := hbw1.trans (hbV.mono (by omega))
  have hown1V := hown1.frame (w' := V1) (ExO.lasts d) fun g hg => hkV g (by have := (hfr1.2 g hg).1; omega)
  have hz1 := hb1.size
  have hD := HR2.out V1 hbwV
  rw [hV1] at hD
  have HV1 : Hid (V1 = _) := hV1
  have HO1 : Hid (OwnRow 5 44 (ExO d) V1 (.slice ya3 yl3 yc3) x.E fp1) := hown1V
  have HB1 : Hid (Below w.heap.size w V1 ∧ Fresh W.heap.size w1 fp1 ∧ V1.heap.size = w1.heap.size) := ⟨hbwV, hfr1, hzV⟩
  have HNV : Hid (_ ∧ _ ∧ _) := ⟨nAV, nBV, nCV⟩
  have f4 : w1.cell? ⟨w.heap.size, 4, none⟩ = some (.slice a4 l4 c4) := by rw [cell_of_row w1 _ 4 _ _ _ nA1]; rfl
  have g3 : w1.cell? ⟨w.heap.size + 1 + 1, 3, none⟩ = some (.slice none 0 0) := by rw [cell_of_row w1 _ 3 _ _ _ nC1]; rfl
  have z3 : w1.frozen? ⟨w.heap.size + 1 + 1, 3, none⟩ = false := frozen_of_row w1 _ _ _ _ nC1
  clear hV1 hV1' nA1 nB1 nC1 nA nB nC nAV nBV nCV hbw1 hbwV hown1V hown1 hfr1 hkV hbV HN HR2 hb1 hzV
  go_wp2_with fail
  refine hD.mono ?_
  clear hD f4 g3 z3
  rintro e w2 ⟨xa4, xl4, xc4, fp2, rfl, hown2, hfr2, hb2⟩
  have hfr2' : Fresh V1.heap.size w2 fp2 := by rw [HV1.out]; exact hfr2
  have hb2' : Below V1.heap.size V1 w2 := by rw [HV1.out]; exact hb2
  clear hfr2 hb2
  obtain ⟨nAV, nBV, nCV⟩ := HNV.out
  have hzB := HB1.out.2.2
  have nB2 := (hb2'.block _ (lt_row nBV)).trans nBV
  have nC2 := (hb2'.block _ (lt_row nCV)).trans nCV
  have hz2 := hb2'.size
  have HFIN : Hid (∀ Z, Kept (w.heap.size + 1) (w.heap.size + 1 + 1 + 1) w2 Z → ExO (d + 1) Z [.int .i64 K, .int .i64 N, .string S, .slice ya3 yl3 yc3, .slice xa4 xl4 xc4] x (fp1 ++ fp2) ∧ Fresh w.heap.size Z (fp1 ++ fp2) ∧ Below w.heap.size w Z) := fun Z hZ => by
    have hf1 := HB1.out.2.1
    have hzZ := hZ.size
    obtain ⟨rfl, rfl, rfl⟩ := HX.out
    refine ⟨⟨_, _, fp1, fp2, rfl, rfl, ?_, ?_⟩, ?_, ?_⟩
    · refine HO1.out.frame (ExO.lasts d) fun g hg => ?_
      have := hf1.2 g hg
      exact (hZ.block g (by omega) (.inr (by omega))).trans (hb2'.block g (by omega))
    · exact hown2.frame (ClO.lasts (ExO.lasts d)) fun g hg => hZ.block g (hfr2'.2 g hg).2 (.inr (by have := (hfr2'.2 g hg).1; omega))
    · exact fresh_two hf1 hfr2' (by omega) hz2 hzZ (by omega) (by omega)
    · have hbw2 : Below w.heap.size w w2 := HB1.out.1.trans (hb2'.mono HB1.out.1.size)
      exact hbw2.trans (hZ.below (by omega) hbw2.size)
  have bcell : ∀ j u, (#[.int .i64 0, .int .i64 0, .string ⟨#[]⟩, .slice none 0 0, .slice none 0 0] : Array Value)[j]? = some u → w2.cell? ⟨w.heap.size + 1, j, none⟩ = some u := fun j u hu => by rw [cell_of_row w2 _ _ _ _ _ nB2]; exact hu
  have ccell : ∀ j u, (#[.int .i64 K, .int .i64 N, .string S, .slice ya3 yl3 yc3, .slice none 0 0] : Array Value)[j]? = some u → w2.cell? ⟨w.heap.size + 1 + 1, j, none⟩ = some u := fun j u hu => by rw [cell_of_row w2 _ _ _ _ _ nC2]; exact hu
  have hfB : ∀ j, w2.frozen? ⟨w.heap.size + 1, j, none⟩ = false := fun j => frozen_of_row w2 _ _ _ _ nB2
  have hfC : ∀ j, w2.frozen? ⟨w.heap.size + 1 + 1, j, none⟩ = false := fun j => frozen_of_row w2 _ _ _ _ nC2
  have b0 := bcell 0 _ rfl
  have y0 := hfB 0
  have g0 := ccell 0 _ rfl
  have z0 := hfC 0
  have b1 := bcell 1 _ rfl
  have y1 := hfB 1
  have g1 := ccell 1 _ rfl
  have z1 := hfC 1
  have b2 := bcell 2 _ rfl
  have y2 := hfB 2
  have g2 := ccell 2 _ rfl
  have z2 := hfC 2
  have b3 := bcell 3 _ rfl
  have y3 := hfB 3
  have g3 := ccell 3 _ rfl
  have z3 := hfC 3
  have b4 := bcell 4 _ rfl
  have y4 := hfB 4
  have g4 := ccell 4 _ rfl
  have z4 := hfC 4
  clear nB2 nC2 nAV nBV nCV hown2 hfr2' hb2' HO1 HB1 HNV bcell ccell hfB hfC
  go_wp2_with fail
  refine bodyPost_ret (v := .agg #[.int .i64 K, .int .i64 N, .string S, .slice ya3 yl3 yc3, .slice xa4 xl4 xc4]) (by first | (simp [results, Try.results59, go_sem, b0, b1, b2, b3, b4]; done) | (simp [results, Try.results59, go_sem, b0, b1, b2, b3, b4]; rfl)) rfl ⟨[.int .i64 K, .int .i64 N, .string S, .slice ya3 yl3 yc3, .slice xa4 xl4 xc4], _, rfl, HFIN.out _ ?_⟩
  repeat (first | with_reducible exact Kept.refl _ _ _ | with_reducible refine Kept.drew ?_ | (with_reducible refine Kept.set ?_ ?_; omega))

theorem toExpr_any : ∀ d, ToEl 59 (ExR d) (ExO d) (WfX d) (szX d) := by
  intro d
  induction d with
  | zero => intro vs x w h; exact h.elim
  | succ d ih => exact toExpr_of d (toExprS_of _ _ _ _ (ExR.lasts d) (ExO.lasts d) (ExR.shape d) (ExO.shape d) ih) (toClauseS_of _ _ _ _ (ClR.lasts (ExR.lasts d)) (ClO.lasts (ExO.lasts d)) (ClR.shape (ExR.shape d)) (ClO.shape (ExO.shape d)) (toClause_of _ _ _ _ (ExR.lasts d) (ExO.lasts d) (ExR.shape d) (ExO.shape d) ih))

set_option maxHeartbeats 1000000 in
theorem eqClause_of {α : Type} (R : World → List Value → α → Prop) (P : α → Prop) (hR : Lasts R) (hS : ∀ w vs x, R w vs x → ShExpr vs) (H : EqEl 60 R P) : EqEl 163 (ClR R) (ClP P) := by
  rintro vs1 vs2 ⟨c1, c2⟩ w ⟨p, x, rfl, h1, h2⟩ ⟨p', x', rfl, h1', h2'⟩ ⟨q1, q2⟩
  obtain ⟨i0, i1, s2, a3, l3, c3, a4, l4, c4, rfl⟩ := hS _ _ _ h1
  obtain ⟨i5, i6, s7, a8, l8, c8, a9, l9, c9, rfl⟩ := hS _ _ _ h2
  obtain ⟨j0, j1, t2, b3, m3, d3, b4, m4, d4, rfl⟩ := hS _ _ _ h1'
  obtain ⟨j5, j6, t7, b8, m8, d8, b9, m9, d9, rfl⟩ := hS _ _ _ h2'
  obtain ⟨W, hW⟩ : ∃ W, W = (w.alloc (Obj.cells #[.int .i64 i0, .int .i64 i1, .string s2, .slice a3 l3 c3, .slice a4 l4 c4, .int .i64 i5, .int .i64 i6, .string s7, .slice a8 l8 c8, .slice a9 l9 c9] 50)).alloc (Obj.cells #[.int .i64 j0, .int .i64 j1, .string t2, .slice b3 m3 d3, .slice b4 m4 d4, .int .i64 j5, .int .i64 j6, .string t7, .slice b8 m8 d8, .slice b9 m9 d9] 50) := ⟨_, rfl⟩
  have hA : Below w.heap.size w W := by rw [hW]; exact ((Below.refl _ _).alloc (Nat.le_refl _) _).alloc (by simp) _
  have n1 : W.heap[w.heap.size]? = some (Obj.cells #[.int .i64 i0, .int .i64 i1, .string s2, .slice a3 l3 c3, .slice a4 l4 c4, .int .i64 i5, .int .i64 i6, .string s7, .slice a8 l8 c8, .slice a9 l9 c9] 50 (0, 0)) := by rw [hW, Below.heap_alloc _ _ _ (by simp)]; exact heap_alloc_new w _
  have n2 : W.heap[w.heap.size + 1]? = some (Obj.cells #[.int .i64 j0, .int .i64 j1, .string t2, .slice b3 m3 d3, .slice b4 m4 d4, .int .i64 j5, .int .i64 j6, .string t7, .slice b8 m8 d8, .slice b9 m9 d9] 50 (0, 0)) := by rw [hW]; have := heap_alloc_new (w.alloc (Obj.cells #[.int .i64 i0, .int .i64 i1, .string s2, .slice a3 l3 c3, .slice a4 l4 c4, .int .i64 i5, .int .i64 i6, .string s7, .slice a8 l8 c8, .slice a9 l9 c9] 50)) (Obj.cells #[.int .i64 j0, .int .i64 j1, .string t2, .slice b3 m3 d3, .slice b4 m4 d4, .int .i64 j5, .int .i64 j6, .string t7, .slice b8 m8 d8, .slice b9 m9 d9] 50); simpa using this
  have hC := H _ _ c1 W (hR _ _ _ _ h1 hA) (hR _ _ _ _ h1' hA) q1
  have H2 : Hid (∀ V : World, Below w.heap.size w V → _) := fun V hV => H _ _ c2 V (hR _ _ _ _ h2 hV) (hR _ _ _ _ h2' hV) q2
  rw [hW] at hC
  have HW : Hid (W = _) := hW
  have HN : Hid (_ ∧ _) := ⟨n1, n2⟩
  clear hW n1 n2 h1 h2 h1' h2' q1 q2
  go_enter Try.func163, Try.ntmps163
  go_wp2_with fail
  refine hC.mono ?_
  clear hC
  rintro e w1 ⟨rfl, hb1⟩
  rw [← HW.out] at hb1
  have hb2 : Below w.heap.size w w1 := hA.trans (hb1.mono hA.size)
  obtain ⟨n1, n2⟩ := HN.out
  have m1 := (hb1.block _ (lt_row n1)).trans n1
  have m2 := (hb1.block _ (lt_row n2)).trans n2
  have f5 : w1.cell? ⟨w.heap.size, 5, none⟩ = some (.int .i64 i5) := by rw [cell_of_row w1 _ 5 _ _ _ m1]; rfl
  have g5 : w1.cell? ⟨w.heap.size + 1, 5, none⟩ = some (.int .i64 j5) := by rw [cell_of_row w1 _ 5 _ _ _ m2]; rfl
  have f6 : w1.cell? ⟨w.heap.size, 6, none⟩ = some (.int .i64 i6) := by rw [cell_of_row w1 _ 6 _ _ _ m1]; rfl
  have g6 : w1.cell? ⟨w.heap.size + 1, 6, none⟩ = some (.int .i64 j6) := by rw [cell_of_row w1 _ 6 _ _ _ m2]; rfl
  have f7 : w1.cell? ⟨w.heap.size, 7, none⟩ = some (.string s7) := by rw [cell_of_row w1 _ 7 _ _ _ m1]; rfl
  have g7 : w1.cell? ⟨w.heap.size + 1, 7, none⟩ = some (.string t7) := by rw [cell_of_row w1 _ 7 _ _ _ m2]; rfl
  have f8 : w1.cell? ⟨w.heap.size, 8, none⟩ = some (.slice a8 l8 c8) := by rw [cell_of_row w1 _ 8 _ _ _ m1]; rfl
  have g8 : w1.cell? ⟨w.heap.size + 1, 8, none⟩ = some (.slice b8 m8 d8) := by rw [cell_of_row w1 _ 8 _ _ _ m2]; rfl
  have f9 : w1.cell? ⟨w.heap.size, 9, none⟩ = some (.slice a9 l9 c9) := by rw [cell_of_row w1 _ 9 _ _ _ m1]; rfl
  have g9 : w1.cell? ⟨w.heap.size + 1, 9, none⟩ = some (.slice b9 m9 d9) := by rw [cell_of_row w1 _ 9 _ _ _ m2]; rfl
  have hD := H2.out w1 hb2
  clear m1 m2 n1 n2 hb1 H2 HN
  go_wp2_with fail
  refine hD.mono ?_
  clear hD
  rintro e w2 ⟨rfl, hb3⟩
  have hb4 : Below w.heap.size w w2 := hb2.trans (hb3.mono hb2.size)
  clear hb3 hb2 hA
  go_wp2
  go_ret
  exact ⟨rfl, hb4⟩

set_option maxHeartbeats 1000000 in
theorem eqExpr_of (d : Nat) (HE : EqLs 109 5 (ExR d) (WfX d)) (HC : EqLs 110 10 (ClR (ExR d)) (ClP (WfX d))) : EqEl 60 (ExR (d + 1)) (WfX (d + 1)) := by
  rintro vs1 vs2 x w ⟨ve, vc, rfl, h1, h2⟩ ⟨ve', vc', rfl, h1', h2'⟩ ⟨_, _, _, w4, w5⟩
  obtain ⟨a3, c3, rfl⟩ := h1.slice
  obtain ⟨a4, c4, rfl⟩ := h2.slice
  obtain ⟨b3, d3, rfl⟩ := h1'.slice
  obtain ⟨b4, d4, rfl⟩ := h2'.slice
  obtain ⟨l3, e3⟩ : ∃ l, x.E.length = l := ⟨_, rfl⟩
  obtain ⟨l4, e4⟩ : ∃ l, x.C.length = l := ⟨_, rfl⟩
  rw [e3] at h1 h1' ⊢
  rw [e4] at h2 h2' ⊢
  obtain ⟨K, hK⟩ : ∃ K, x.K = K := ⟨_, rfl⟩
  obtain ⟨N, hN⟩ : ∃ N, x.N = N := ⟨_, rfl⟩
  obtain ⟨S, hS⟩ : ∃ S, x.S = S := ⟨_, rfl⟩
  rw [hK, hN, hS]
  obtain ⟨W, hW⟩ : ∃ W, W = (w.alloc (Obj.cells #[.int .i64 K, .int .i64 N, .string S, .slice a3 l3 c3, .slice a4 l4 c4] 44)).alloc (Obj.cells #[.int .i64 K, .int .i64 N, .string S, .slice b3 l3 d3, .slice b4 l4 d4] 44) := ⟨_, rfl⟩
  have hA : Below w.heap.size w W := by rw [hW]; exact ((Below.refl _ _).alloc (Nat.le_refl _) _).alloc (by simp) _
  have n1 : W.heap[w.heap.size]? = some (Obj.cells #[.int .i64 K, .int .i64 N, .string S, .slice a3 l3 c3, .slice a4 l4 c4] 44 (0, 0)) := by rw [hW, Below.heap_alloc _ _ _ (by simp)]; exact heap_alloc_new w _
  have n2 : W.heap[w.heap.size + 1]? = some (Obj.cells #[.int .i64 K, .int .i64 N, .string S, .slice b3 l3 d3, .slice b4 l4 d4] 44 (0, 0)) := by rw [hW]; have := heap_alloc_new (w.alloc (Obj.cells #[.int .i64 K, .int .i64 N, .string S, .slice a3 l3 c3, .slice a4 l4 c4] 44)) (Obj.cells #[.int .i64 K, .int .i64 N, .string S, .slice b3 l3 d3, .slice b4 l4 d4] 44); simpa using this
  have hC := HE _ _ _ W (h1.later (ExR.lasts d) hA) (h1'.later (ExR.lasts d) hA) w4
  have H2 : Hid (∀ V : World, Below w.heap.size w V → _) := fun V hV => HC _ _ _ V (h2.later (ClR.lasts (ExR.lasts d)) hV) (h2'.later (ClR.lasts (ExR.lasts d)) hV) w5
  rw [hW] at hC
  have HW : Hid (W = _) := hW
  have HN : Hid (_ ∧ _) := ⟨n1, n2⟩
  clear hW n1 n2 h1 h2 h1' h2' w4 w5 HE HC hK hN hS e3 e4
  go_enter Try.func60, Try.ntmps60
  go_wp2_with fail
  refine hC.mono ?_
  clear hC
  rintro e w1 ⟨rfl, hb1⟩
  rw [← HW.out] at hb1
  have hb2 : Below w.heap.size w w1 := hA.trans (hb1.mono hA.size)
  obtain ⟨n1, n2⟩ := HN.out
  have f4 : w1.cell? ⟨w.heap.size, 4, none⟩ = some (.slice a4 l4 c4) := by rw [cell_of_row w1 _ 4 _ _ _ ((hb1.block _ (lt_row n1)).trans n1)]; rfl
  have g4 : w1.cell? ⟨w.heap.size + 1, 4, none⟩ = some (.slice b4 l4 d4) := by rw [cell_of_row w1 _ 4 _ _ _ ((hb1.block _ (lt_row n2)).trans n2)]; rfl
  have hD := H2.out w1 hb2
  clear n1 n2 hb1 H2 HN
  go_wp2_with fail
  refine hD.mono ?_
  clear hD
  rintro e w2 ⟨rfl, hb3⟩
  have hb4 : Below w.heap.size w w2 := hb2.trans (hb3.mono hb2.size)
  clear hb3 hb2 hA
  go_wp2
  go_ret
  exact ⟨rfl, hb4⟩

theorem eqExpr_any : ∀ d, EqEl 60 (ExR d) (WfX d) := by
  intro d
  induction d with
  | zero => intro vs1 vs2 x w h; exact h.elim
  | succ d ih => exact eqExpr_of d (eqExprS_of _ _ (ExR.lasts d) (ExR.shape d) ih) (eqClauseS_of _ _ (ClR.lasts (ExR.lasts d)) (ClR.shape (ExR.shape d)) (eqClause_of _ _ (ExR.lasts d) (ExR.shape d) ih))

end Go.Proofs.Ythjmbbpakidkdaa

/- The law's own marks on lists of structs: what is left of a list. -/
namespace Go.Proofs.Ythjmbbpakidkdaa
open Go.RowKit
set_option linter.unusedVariables false

/-- The contract of marks on a list: how far the marks go, and that nothing else is written. -/
def MkL {α : Type} (F k : Nat) (T : TypeId) (O : World → List Value → α → List Nat → Prop) (c : α → Nat) : Prop := ∀ (v : Value) (xs : List α) (fp : List Nat) (q : Int) (w : World), OwnRow k T O w v xs fp → fp.Nodup → 0 ≤ q → q + ((xs.map c).sum : Nat) ≤ 1099511627776 → xs.length ≤ 1099511627776 →
  Calls Try.prog F #[v, .int .i64 q] w fun e w' => ∃ q' : Int, e = .returned (.int .i64 q') ∧ 0 ≤ q' ∧ q' ≤ q + ((xs.map c).sum : Nat) ∧ Wrote fp w w'

/-- From the jth on a list lies as it lay. -/
def RestRow {α : Type} (k : Nat) (O : World → List Value → α → List Nat → Prop) (xs : List α) (j : Nat) (w : World) (cur : Array Value) (fps : List (List Nat)) : Prop :=
  ∀ (i : Nat) (x : α), j ≤ i → xs[i]? = some x → ∃ vs f, fps[i]? = some f ∧ vs.length = k ∧ (∀ (m : Nat) (u : Value), vs[m]? = some u → cur[i * k + m]? = some u) ∧ O w vs x f

/-- All blocks are there. -/
def InHeap {α : Type} (O : World → List Value → α → List Nat → Prop) : Prop := ∀ w vs x f, O w vs x f → ∀ g ∈ f, g < w.heap.size

theorem OwnRow.lt {α : Type} {k : Nat} {T : TypeId} {O : World → List Value → α → List Nat → Prop} (hI : InHeap O) {w : World} {v : Value} {xs : List α} {fp : List Nat} (h : OwnRow k T O w v xs fp) : ∀ g ∈ fp, g < w.heap.size := by
  intro g hg
  rcases h with ⟨_, rfl, _⟩ | ⟨g0, c, cur, fps, _, h2, h3, rfl, h4⟩
  · cases hg
  · rcases List.mem_cons.1 hg with rfl | hg
    · exact lt_row h2
    · obtain ⟨f, hf, hgf⟩ := List.mem_flatten.1 hg
      obtain ⟨i, hi, e⟩ := List.getElem_of_mem hf
      obtain ⟨t, ht⟩ : ∃ t, xs[i]? = some t := ⟨_, List.getElem?_eq_getElem (by omega)⟩
      obtain ⟨vs, f', e1, _, _, e6⟩ := h4 i t ht
      rw [List.getElem?_eq_getElem hi, e] at e1
      cases e1
      exact hI _ _ _ _ e6 g hgf

theorem ClO.lt {α : Type} {O : World → List Value → α → List Nat → Prop} (h : InHeap O) : InHeap (ClO O) := by
  rintro w vs c fp ⟨p, x, f, g, rfl, rfl, h1, h2⟩ y hy
  rcases List.mem_append.1 hy with hy | hy
  · exact h _ _ _ _ h1 y hy
  · exact h _ _ _ _ h2 y hy
theorem ExO.lt : ∀ d, InHeap (ExO d) := by
  intro d
  induction d with
  | zero => intro w vs x f h; exact h.elim
  | succ d ih =>
    rintro w vs x fp ⟨ve, vc, f, g, rfl, rfl, h1, h2⟩ y hy
    rcases List.mem_append.1 hy with hy | hy
    · exact h1.lt ih y hy
    · exact h2.lt (ClO.lt ih) y hy

/-- One is marked. -/
theorem rest_step {α : Type} {k : Nat} {O : World → List Value → α → List Nat → Prop} (hO : LastsO O) (hI : InHeap O) {xs : List α} {j g : Nat} {wr V2 : World} {cur cur3 : Array Value} {fps : List (List Nat)} {f : List Nat} (hH : RestRow k O xs j wr cur fps) (hf : fps[j]? = some f) (hnd : (g :: fps.flatten).Nodup)
    (hW : Wrote (g :: f) wr V2) (hc : ∀ m, (j + 1) * k ≤ m → cur3[m]? = cur[m]?) : RestRow k O xs (j + 1) V2 cur3 fps := by
  intro i x hi hx
  obtain ⟨vs, f', e1, e2, e3, e4⟩ := hH i x (by omega) hx
  refine ⟨vs, f', e1, e2, fun m u hu => ?_, hO _ _ _ _ _ e4 fun y hy => ?_⟩
  · have h1 : (j + 1) * k ≤ i * k := Nat.mul_le_mul_right k hi
    rw [hc _ (by omega)]
    exact e3 m u hu
  · refine hW.block y (hI _ _ _ _ e4 y hy) fun hm => ?_
    rcases List.mem_cons.1 hm with rfl | hm
    · exact (List.nodup_cons.1 hnd).1 (List.mem_flatten.2 ⟨f', List.mem_of_getElem? e1, hy⟩)
    · exact (nodup_fl fps (List.nodup_cons.1 hnd).2).2 j i f f' (by omega) hf e1 y hm hy

/-- How many marks an expression takes beside its own. -/
def ckX : (d : Nat) → Ex d → Nat
  | 0, _ => 0
  | d + 1, e => (e.E.map fun x => 3 + ckX d x).sum + (e.C.map fun c => 6 + ckX d c.1 + ckX d c.2).sum

theorem ckX_le : ∀ (d : Nat) (e : Ex d), ckX d e ≤ 6 * szX d e := by
  intro d
  induction d with
  | zero => intro e; exact Nat.zero_le _
  | succ d ih =>
    intro e
    have h1 : (e.E.map fun x => 3 + ckX d x).sum ≤ 6 * szRow (szX d) e.E := by
      unfold szRow
      generalize e.E = l
      induction l with
      | nil => exact Nat.zero_le _
      | cons x l ihl => simp only [List.map_cons, List.sum_cons, List.length_cons]; have := ih x; omega
    have h2 : (e.C.map fun c => 6 + ckX d c.1 + ckX d c.2).sum ≤ 6 * szRow (ClF (szX d)) e.C := by
      unfold szRow
      generalize e.C = l
      induction l with
      | nil => exact Nat.zero_le _
      | cons x l ihl => simp only [List.map_cons, List.sum_cons, List.length_cons]; have := ih x.1; have := ih x.2; show _ ≤ 6 * (_ + ((szX d x.1 + szX d x.2) + _)); omega
    show (e.E.map fun x => 3 + ckX d x).sum + (e.C.map fun c => 6 + ckX d c.1 + ckX d c.2).sum ≤ 6 * (e.S.size + szRow (szX d) e.E + szRow (ClF (szX d)) e.C)
    omega

end Go.Proofs.Ythjmbbpakidkdaa

/- The law's own marks on lists of expressions: the walk. -/
namespace Go.Proofs.Ythjmbbpakidkdaa
open Go.RowKit
set_option linter.unusedVariables false

theorem in_ab {g y : Nat} {a b : List Nat} (h : y ∈ g :: a) : y ∈ g :: (a ++ b) := by
  rcases List.mem_cons.1 h with e | e
  · exact List.mem_cons.2 (.inl e)
  · exact List.mem_cons_of_mem _ (List.mem_append_left _ e)
theorem in_ac {g y : Nat} {a b : List Nat} (h : y ∈ g :: b) : y ∈ g :: (a ++ b) := by
  rcases List.mem_cons.1 h with e | e
  · exact List.mem_cons.2 (.inl e)
  · exact List.mem_cons_of_mem _ (List.mem_append_right _ e)
theorem len_sum {α : Type} (f : α → Nat) (l : List α) (h : ∀ x, 1 ≤ f x) : l.length ≤ (l.map f).sum := by
  induction l with
  | nil => exact Nat.le_refl _
  | cons x l ih => simp only [List.length_cons, List.map_cons, List.sum_cons]; have := h x; omega

set_option maxRecDepth 100000 in
set_option maxHeartbeats 4000000 in
theorem markExprS_of (d : Nat) (HE : MkL 111 5 44 (ExO d) (fun x => 3 + ckX d x)) (HC : MkL 112 10 50 (ClO (ExO d)) (fun c => 6 + ckX d c.1 + ckX d c.2)) : MkL 111 5 44 (ExO (d + 1)) (fun x => 3 + ckX (d + 1) x) := by
  intro v xs fp k w hown hnd h0 h1 hln
  obtain ⟨CC, hCC⟩ : ∃ CC : Ex (d + 1) → Nat, CC = (fun x => 3 + ckX (d + 1) x) := ⟨_, rfl⟩
  rw [← hCC] at h1 ⊢
  have HCC : Hid (CC = (fun x => 3 + ckX (d + 1) x)) := hCC
  clear hCC
  rcases hown with ⟨rfl, rfl, a, c, rfl⟩ | ⟨g, c, cur0, fps, rfl, hh0, hfl, rfl, hel⟩
  · go_enter Try.func111, Try.ntmps111
    go_wp2
    refine wp_loop_rounds 1 ?_
    rw [rounds_succ]
    go_wp2
    go_ret
    exact ⟨k, rfl, h0, by simp, Wrote.refl _ _⟩
  · have HME : Hid (MkL 111 5 44 (ExO d) (fun x => 3 + ckX d x)) := HE
    have HMC : Hid (MkL 112 10 50 (ClO (ExO d)) (fun c => 6 + ckX d c.1 + ckX d c.2)) := HC
    have HND : Hid ((g :: fps.flatten).Nodup) := hnd
    have HH0 : Hid (RestRow 5 (ExO (d + 1)) xs 0 w cur0 fps) := fun i x _ hx => hel i x hx
    have HB : Hid (k + ((xs.map CC).sum : Nat) ≤ 1099511627776) := h1
    obtain ⟨len, hl⟩ : ∃ len, xs.length = len := ⟨_, rfl⟩
    have HL : Hid (xs.length = len) := hl
    rw [hl] at hln ⊢
    clear HE HC hel hl hnd hfl h1
    go_enter Try.func111, Try.ntmps111
    go_wp2_with fail
    go_loopw [1, 5] (fun x i wr => ∃ (j : Nat) (cur : Array Value) (q : Int), j ≤ len ∧ i = .int .i64 j ∧ x = .int .i64 q ∧ 0 ≤ q ∧ q ≤ k + (sumP CC xs j : Nat) ∧ wr.heap[g]? = some (.cells cur 44 (0, 0)) ∧ Hid (RestRow 5 (ExO (d + 1)) xs j wr cur fps) ∧ Hid (Wrote (g :: fps.flatten) w wr)) (fun _ i _ => len - (intOf i).toNat)
    case atStart => exact ⟨0, cur0, k, Nat.zero_le _, rfl, rfl, h0, by show k ≤ k + ((0 : Nat) : Int); omega, hh0, HH0, Wrote.refl _ _⟩
    case round =>
      obtain ⟨j, cur, q, hj, rfl, rfl, hq0, hqs, hh, HHf, HWR⟩ := hrel
      have hq1 : q ≤ 1099511627776 := by have := sumP_le CC xs j; have := HB.out; omega
      clear HH0 hh0
      by_cases hjl : j < len
      · obtain ⟨t, ht⟩ : ∃ t, xs[j]? = some t := ⟨_, List.getElem?_eq_getElem (by rw [HL.out]; exact hjl)⟩
        have HT : Hid (xs[j]? = some t) := ht
        obtain ⟨vs, f, hf, hvl, hcell, hO⟩ := HHf.out j t (Nat.le_refl _) ht
        obtain ⟨vea, vca, fea, fca, rfl, rfl, hEa, hCa⟩ := hO
        obtain ⟨xaa, xca, rfl⟩ := (hEa.rd (ExO.reads d)).slice
        obtain ⟨yaa, yca, rfl⟩ := (hCa.rd (ClO.reads (ExO.reads d))).slice
        obtain ⟨xla, hxla⟩ : ∃ l, t.E.length = l := ⟨_, rfl⟩
        obtain ⟨yla, hyla⟩ : ∃ l, t.C.length = l := ⟨_, rfl⟩
        rw [hxla] at hEa
        rw [hyla] at hCa
        have kaa : cur[j * 5]? = some (.int .i64 t.K) := hcell 0 _ rfl
        have kba : cur[j * 5 + 1]? = some (.int .i64 t.N) := hcell 1 _ rfl
        have kca : cur[j * 5 + 3]? = some (.slice xaa xla xca) := by rw [← hxla]; exact hcell 3 _ rfl
        have kda : cur[j * 5 + 4]? = some (.slice yaa yla yca) := by rw [← hyla]; exact hcell 4 _ rfl
        have hfn : (fea ++ fca).Nodup := (nodup_fl fps (List.nodup_cons.1 HND.out).2).1 _ (List.mem_of_getElem? hf)
        have hgf : g ∉ fea ++ fca := fun hm => (List.nodup_cons.1 HND.out).1 (List.mem_flatten.2 ⟨_, List.mem_of_getElem? hf, hm⟩)
        have hfa := List.nodup_append.1 hfn
        have HEa : Hid (OwnRow 5 44 (ExO d) wr (.slice xaa xla xca) t.E fea) := hEa
        have HCa : Hid (OwnRow 10 50 (ClO (ExO d)) wr (.slice yaa yla yca) t.C fca) := hCa
        have HGa : Hid ((∀ y ∈ fea, y ≠ g) ∧ (∀ y ∈ fca, y ≠ g) ∧ fea.Nodup ∧ fca.Nodup ∧ ∀ y ∈ fea, y ∉ fca) := ⟨fun y hy e => hgf (e ▸ List.mem_append_left _ hy), fun y hy e => hgf (e ▸ List.mem_append_right _ hy), hfa.1, hfa.2.1, fun y hy hy2 => hfa.2.2 y hy y hy2 rfl⟩
        have HCNa : Hid (q + 3 + ((t.E.map fun x => 3 + ckX d x).sum : Nat) + ((t.C.map fun c => 6 + ckX d c.1 + ckX d c.2).sum : Nat) ≤ 1099511627776) := by
          have h7 := sumP_succ CC xs j t ht
          have h8 := sumP_le CC xs (j + 1)
          have h9 := HB.out
          have h10 : CC t = 3 + ((t.E.map fun x => 3 + ckX d x).sum + (t.C.map fun c => 6 + ckX d c.1 + ckX d c.2).sum) := by rw [HCC.out]; rfl
          show _ ≤ _
          omega
        have HLEa : Hid (t.E.length ≤ 1099511627776 ∧ t.C.length ≤ 1099511627776) := by
          have l1 := len_sum (fun x : Ex d => 3 + ckX d x) t.E (fun x => by omega)
          have l2 := len_sum (fun c : Ex d × Ex d => 6 + ckX d c.1 + ckX d c.2) t.C (fun x => by omega)
          have := HCNa.out
          exact ⟨by omega, by omega⟩
        have HF : Hid (fps[j]? = some (fea ++ fca)) := hf
        clear hEa hCa hfn hgf hfa hf hcell
        have hsza : j * 5 + 4 < cur.size := (Array.getElem?_eq_some_iff.1 kda).1
        have hgsa : g < wr.heap.size := lt_row hh
        have saa : wr.cell? ⟨g, j * 5, none⟩ = some (.int .i64 t.K) := by rw [cell_of_row wr _ _ _ _ _ hh]; exact kaa
        have sba : wr.cell? ⟨g, j * 5 + 1, none⟩ = some (.int .i64 t.N) := by rw [cell_of_row wr _ _ _ _ _ hh]; exact kba
        have zaa : wr.frozen? ⟨g, j * 5, none⟩ = false := frozen_of_row wr _ _ _ _ hh
        have zba : wr.frozen? ⟨g, j * 5 + 1, none⟩ = false := frozen_of_row wr _ _ _ _ hh
        have hA1a := heap_setCell_same wr g (j * 5) cur 44 (.int .i64 q) hh
        have hA2a := heap_setCell_same _ g (j * 5 + 1) _ 44 (.int .i64 (q + 1)) hA1a
        obtain ⟨W2a, hW2a⟩ : ∃ W2, W2 = (wr.setCell ⟨g, j * 5, none⟩ (.int .i64 q)).setCell ⟨g, j * 5 + 1, none⟩ (.int .i64 (q + 1)) := ⟨_, rfl⟩
        have hWr2a : Wrote [g] wr W2a := by rw [hW2a]; exact (Wrote.of_set wr g (j * 5) _).trans (Wrote.of_set _ g (j * 5 + 1) _)
        rw [← hW2a] at hA2a
        have hCta := markText_any (q + 1 + 1) W2a (by omega) (by have := HCNa.out; omega)
        rw [hW2a] at hCta
        have HW2a : Hid (W2a = _) := hW2a
        have HA2a : Hid (W2a.heap[g]? = some (.cells ((cur.setIfInBounds (j * 5) (.int .i64 q)).setIfInBounds (j * 5 + 1) (.int .i64 (q + 1))) 44 (0, 0))) := hA2a
        have HWr2a : Hid (Wrote [g] wr W2a) := hWr2a
        have HKa : Hid (cur[j * 5 + 3]? = some (.slice xaa xla xca) ∧ cur[j * 5 + 4]? = some (.slice yaa yla yca)) := ⟨kca, kda⟩
        clear hA1a hA2a hW2a hWr2a
        go_wp2_with fail
        refine hCta.mono ?_
        clear hCta saa sba zaa zba
        rintro e Va ⟨rfl, hBVa⟩
        rw [← HW2a.out] at hBVa
        have hhVa := (hBVa.block g (lt_row HA2a.out)).trans HA2a.out
        obtain ⟨v2a, t2a⟩ : ∃ v, Va.cell? ⟨g, j * 5 + 2, none⟩ = some v := by rw [cell_of_row Va _ _ _ _ _ hhVa]; exact ⟨_, Array.getElem?_eq_getElem (by simp; omega)⟩
        have t3a : Va.cell? ⟨g, j * 5 + 3, none⟩ = some (.slice xaa xla xca) := by
          rw [cell_of_row Va _ _ _ _ _ hhVa, Array.getElem?_setIfInBounds_ne (by omega), Array.getElem?_setIfInBounds_ne (by omega)]; exact HKa.out.1
        have zza : Va.frozen? ⟨g, j * 5 + 2, none⟩ = false := frozen_of_row Va _ _ _ _ hhVa
        have hA3a := heap_setCell_same Va g (j * 5 + 2) _ 44 (.string (mt (q + 1 + 1))) hhVa
        obtain ⟨W3a, hW3a⟩ : ∃ W3, W3 = Va.setCell ⟨g, j * 5 + 2, none⟩ (.string (mt (q + 1 + 1))) := ⟨_, rfl⟩
        have hWr3a : Wrote [g] wr W3a := (HWr2a.out.trans (Wrote.of_below hBVa)).trans (by rw [hW3a]; exact Wrote.of_set Va g (j * 5 + 2) _)
        rw [← hW3a] at hA3a
        have hE3a := HEa.out.frame (w' := W3a) (ExO.lasts d) fun y hy => hWr3a.block y (HEa.out.lt (ExO.lt d) y hy) (fun hm => HGa.out.1 y hy (by simpa using hm))
        have hC2a := HME.out (.slice xaa xla xca) t.E fea (q + 1 + 1 + 1) W3a hE3a HGa.out.2.2.1 (by omega) (by have := HCNa.out; omega) (by have := HLEa.out.1; omega)
        have HW3a : Hid (W3a = _) := hW3a
        have HA3a : Hid (W3a.heap[g]? = some (.cells (((cur.setIfInBounds (j * 5) (.int .i64 q)).setIfInBounds (j * 5 + 1) (.int .i64 (q + 1))).setIfInBounds (j * 5 + 2) (.string (mt (q + 1 + 1)))) 44 (0, 0))) := hA3a
        have HWr3a : Hid (Wrote [g] wr W3a) := hWr3a
        rw [hW3a] at hC2a
        clear hW3a hA3a hE3a hWr3a hBVa hhVa
        go_wp2_with fail
        refine hC2a.mono ?_
        clear hC2a t2a t3a zza
        rintro e V2a ⟨q1a, rfl, hq10a, hq11a, hw2a⟩
        rw [← HW3a.out] at hw2a
        have hhFa := (hw2a.block g (lt_row HA3a.out) (fun hm => HGa.out.1 g hm rfl)).trans HA3a.out
        have hWr4a : Wrote (g :: fea) wr V2a := (HWr3a.out.mono fun y hy => by simp at hy; simp [hy]).trans (hw2a.mono fun y hy => List.mem_cons_of_mem _ hy)
        have t4a : V2a.cell? ⟨g, j * 5 + 4, none⟩ = some (.slice yaa yla yca) := by
          rw [cell_of_row V2a _ _ _ _ _ hhFa, Array.getElem?_setIfInBounds_ne (by omega), Array.getElem?_setIfInBounds_ne (by omega), Array.getElem?_setIfInBounds_ne (by omega)]; exact HKa.out.2
        have hCCa := HCa.out.frame (w' := V2a) (ClO.lasts (ExO.lasts d)) fun y hy => hWr4a.block y (HCa.out.lt (ClO.lt (ExO.lt d)) y hy) (fun hm => by
          rcases List.mem_cons.1 hm with e | hm
          · exact HGa.out.2.1 y hy e
          · exact HGa.out.2.2.2.2 y hm hy)
        have hC3a := HMC.out (.slice yaa yla yca) t.C fca q1a V2a hCCa HGa.out.2.2.2.1 hq10a (by have := HCNa.out; omega) (by have := HLEa.out.2; omega)
        have HWr4a : Hid (Wrote (g :: fea) wr V2a) := hWr4a
        have HHFa : Hid (V2a.heap[g]? = _) := hhFa
        clear hCCa hWr4a hw2a hhFa
        go_wp2_with fail
        refine hC3a.mono ?_
        clear hC3a t4a
        rintro e V3a ⟨q2a, rfl, hq20a, hq21a, hw3a⟩
        have hh3a := (hw3a.block g (lt_row HHFa.out) (fun hm => HGa.out.2.1 g hm rfl)).trans HHFa.out
        have hWr5a : Wrote (g :: (fea ++ fca)) wr V3a := (HWr4a.out.mono fun y hy => in_ab hy).trans (hw3a.mono fun y hy => List.mem_cons_of_mem _ (List.mem_append_right _ hy))
        have HH3a : Hid (V3a.heap[g]? = some (.cells (((cur.setIfInBounds (j * 5) (.int .i64 q)).setIfInBounds (j * 5 + 1) (.int .i64 (q + 1))).setIfInBounds (j * 5 + 2) (.string (mt (q + 1 + 1)))) 44 (0, 0))) := hh3a
        have HWr5a : Hid (Wrote (g :: (fea ++ fca)) wr V3a) := hWr5a
        clear hh3a hWr5a hw3a
        have HRS : Hid (RestRow 5 (ExO (d + 1)) xs (j + 1) V3a _ fps) := rest_step (cur3 := ((cur.setIfInBounds (j * 5) (.int .i64 q)).setIfInBounds (j * 5 + 1) (.int .i64 (q + 1))).setIfInBounds (j * 5 + 2) (.string (mt (q + 1 + 1)))) (ExO.lasts (d + 1)) (ExO.lt (d + 1)) HHf.out HF.out HND.out HWr5a.out (fun m hm => by rw [Array.getElem?_setIfInBounds_ne (by omega), Array.getElem?_setIfInBounds_ne (by omega), Array.getElem?_setIfInBounds_ne (by omega)])
        have HWF : Hid (Wrote (g :: fps.flatten) w V3a) := HWR.out.trans (HWr5a.out.mono fun y hy => by
          rcases List.mem_cons.1 hy with rfl | hy
          · exact List.mem_cons_self ..
          · exact List.mem_cons_of_mem _ (List.mem_flatten.2 ⟨_, List.mem_of_getElem? HF.out, hy⟩))
        have HQ2 : Hid (0 ≤ q2a ∧ q2a ≤ k + (sumP CC xs (j + 1) : Nat)) := by
          have h7 := sumP_succ CC xs j t HT.out
          have h10 : CC t = 3 + ((t.E.map fun x => 3 + ckX d x).sum + (t.C.map fun c => 6 + ckX d c.1 + ckX d c.2).sum) := by rw [HCC.out]; rfl
          exact ⟨hq20a, by omega⟩
        clear hq20a hq21a hq10a hq11a
        go_wp2
        go_roundw
        case rel => exact ⟨j + 1, _, q2a, by omega, by go_num, rfl, HQ2.out.1, HQ2.out.2, HH3a.out, HRS, HWF⟩
        case measure => simp [intOf]; omega
      · have HF : Hid (q ≤ k + ((xs.map CC).sum : Nat)) := by have := sumP_le CC xs j; show _ ≤ _; omega
        clear hh HHf
        go_wp2
        go_ret
        exact ⟨q, rfl, hq0, HF.out, HWR.out⟩

end Go.Proofs.Ythjmbbpakidkdaa
