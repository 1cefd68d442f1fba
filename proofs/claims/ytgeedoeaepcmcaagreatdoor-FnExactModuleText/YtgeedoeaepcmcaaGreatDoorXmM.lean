/- Expressions as data, to whatever depth; the law's own measure, copy and comparison of them. -/
import Derived.Test.YtgeedoeaepcmcaaGreatDoorRowExprM
import Derived.Test.YtgeedoeaepcmcaaGreatDoorRowClauseM
namespace Go.Proofs.YtgeedoeaepcmcaaGreatDoor
open Go.RowKit
set_option linter.unusedVariables false

/-- An expression of at most d storeys. -/
def Ex : Nat → Type
  | 0 => Empty
  | d + 1 => Int × Int × ByteArray × List (Ex d) × List (Ex d × Ex d)

def Ex.K {d : Nat} (e : Ex (d + 1)) : Int := e.1
def Ex.N {d : Nat} (e : Ex (d + 1)) : Int := e.2.1
def Ex.S {d : Nat} (e : Ex (d + 1)) : ByteArray := e.2.2.1
def Ex.E {d : Nat} (e : Ex (d + 1)) : List (Ex d) := e.2.2.2.1
def Ex.C {d : Nat} (e : Ex (d + 1)) : List (Ex d × Ex d) := e.2.2.2.2
def mkX {d : Nat} (k n : Int) (s : ByteArray) (es : List (Ex d)) (cs : List (Ex d × Ex d)) : Ex (d + 1) := (k, n, s, es, cs)

/-- Two by two. -/
def ClR {α : Type} (R : World → List Value → α → Prop) (w : World) (vs : List Value) (c : α × α) : Prop := ∃ p x, vs = p ++ x ∧ R w p c.1 ∧ R w x c.2
def ClO {α : Type} (O : World → List Value → α → List Nat → Prop) (w : World) (vs : List Value) (c : α × α) (fp : List Nat) : Prop := ∃ p x f g, vs = p ++ x ∧ fp = f ++ g ∧ O w p c.1 f ∧ O w x c.2 g
def ClP {α : Type} (P : α → Prop) (c : α × α) : Prop := P c.1 ∧ P c.2
def ClF {α : Type} (f : α → Nat) (c : α × α) : Nat := f c.1 + f c.2

/-- Five cells that tell an expression. -/
def ExR : (d : Nat) → World → List Value → Ex d → Prop
  | 0, _, _, _ => False
  | d + 1, w, vs, e => ∃ ve vc, vs = [.int .i64 e.K, .int .i64 e.N, .string e.S, ve, vc] ∧ RowOf 5 (ExR d) w ve e.E ∧ RowOf 10 (ClR (ExR d)) w vc e.C

/-- The same in blocks of one's own. -/
def ExO : (d : Nat) → World → List Value → Ex d → List Nat → Prop
  | 0, _, _, _, _ => False
  | d + 1, w, vs, e, fp => ∃ ve vc f g, vs = [.int .i64 e.K, .int .i64 e.N, .string e.S, ve, vc] ∧ fp = f ++ g ∧ OwnRow 5 39 (ExO d) w ve e.E f ∧ OwnRow 10 67 (ClO (ExO d)) w vc e.C g

/-- What every expression in memory is within. -/
def WfX : (d : Nat) → Ex d → Prop
  | 0, _ => False
  | d + 1, e => I64 e.K ∧ I64 e.N ∧ e.S.size ≤ maxLen ∧ WfRow (WfX d) e.E ∧ WfRow (ClP (WfX d)) e.C

/-- How great an expression is. -/
def szX : (d : Nat) → Ex d → Nat
  | 0, _ => 0
  | d + 1, e => e.S.size + szRow (szX d) e.E + szRow (ClF (szX d)) e.C

theorem ClR.lasts {α : Type} {R : World → List Value → α → Prop} (h : Lasts R) : Lasts (ClR R) := by
  rintro w w' vs c ⟨p, x, rfl, h1, h2⟩ hb
  exact ⟨p, x, rfl, h _ _ _ _ h1 hb, h _ _ _ _ h2 hb⟩
theorem ClO.lasts {α : Type} {O : World → List Value → α → List Nat → Prop} (h : LastsO O) : LastsO (ClO O) := by
  rintro w w' vs c fp ⟨p, x, f, g, rfl, rfl, h1, h2⟩ hb
  exact ⟨p, x, f, g, rfl, rfl, h _ _ _ _ _ h1 fun j hj => hb j (List.mem_append_left _ hj), h _ _ _ _ _ h2 fun j hj => hb j (List.mem_append_right _ hj)⟩
theorem ClO.reads {α : Type} {O : World → List Value → α → List Nat → Prop} {R : World → List Value → α → Prop} (h : Reads O R) : Reads (ClO O) (ClR R) := by
  rintro w vs c fp ⟨p, x, f, g, rfl, rfl, h1, h2⟩
  exact ⟨p, x, rfl, h _ _ _ _ h1, h _ _ _ _ h2⟩

theorem ExR.lasts : ∀ d, Lasts (ExR d) := by
  intro d
  induction d with
  | zero => intro w w' vs x h _; exact h.elim
  | succ d ih =>
    rintro w w' vs x ⟨ve, vc, rfl, h1, h2⟩ hb
    exact ⟨ve, vc, rfl, h1.later ih hb, h2.later (ClR.lasts ih) hb⟩
theorem ExO.lasts : ∀ d, LastsO (ExO d) := by
  intro d
  induction d with
  | zero => intro w w' vs x f h _; exact h.elim
  | succ d ih =>
    rintro w w' vs x fp ⟨ve, vc, f, g, rfl, rfl, h1, h2⟩ hb
    exact ⟨ve, vc, f, g, rfl, rfl, h1.frame ih fun j hj => hb j (List.mem_append_left _ hj), h2.frame (ClO.lasts ih) fun j hj => hb j (List.mem_append_right _ hj)⟩
theorem ExO.reads : ∀ d, Reads (ExO d) (ExR d) := by
  intro d
  induction d with
  | zero => intro w vs x f h; exact h.elim
  | succ d ih =>
    rintro w vs x fp ⟨ve, vc, f, g, rfl, rfl, h1, h2⟩
    exact ⟨ve, vc, rfl, h1.rd ih, h2.rd (ClO.reads ih)⟩

theorem ExR.shape : ∀ d w vs x, ExR d w vs x → ShExpr vs := by
  intro d w vs x h
  cases d with
  | zero => exact h.elim
  | succ d =>
    obtain ⟨ve, vc, rfl, h1, h2⟩ := h
    obtain ⟨a, c, rfl⟩ := h1.slice
    obtain ⟨a', c', rfl⟩ := h2.slice
    exact ⟨_, _, _, _, _, _, _, _, _, rfl⟩
theorem sh_two {p x : List Value} (h1 : ShExpr p) (h2 : ShExpr x) : ShClause (p ++ x) := by
  obtain ⟨_, _, _, _, _, _, _, _, _, rfl⟩ := h1
  obtain ⟨_, _, _, _, _, _, _, _, _, rfl⟩ := h2
  exact ⟨_, _, _, _, _, _, _, _, _, _, _, _, _, _, _, _, _, _, rfl⟩
theorem ClR.shape {α : Type} {R : World → List Value → α → Prop} (h : ∀ w vs x, R w vs x → ShExpr vs) : ∀ w vs c, ClR R w vs c → ShClause vs := by
  rintro w vs c ⟨p, x, rfl, h1, h2⟩
  exact sh_two (h _ _ _ h1) (h _ _ _ h2)
theorem ExO.shape : ∀ d w vs x f, ExO d w vs x f → ShExpr vs := fun d w vs x f h => ExR.shape d w vs x (ExO.reads d w vs x f h)
theorem ClO.shape {α : Type} {O : World → List Value → α → List Nat → Prop} (h : ∀ w vs x f, O w vs x f → ShExpr vs) : ∀ w vs c f, ClO O w vs c f → ShClause vs := by
  rintro w vs c fp ⟨p, x, f, g, rfl, rfl, h1, h2⟩
  exact sh_two (h _ _ _ _ h1) (h _ _ _ _ h2)

/-! The measure. -/

theorem lft_two (left : Int) (a b : Nat) (h : 0 ≤ left) : (lft left a < 0 → lft left (a + b) = -1) ∧ (¬ lft left a < 0 → lft (lft left a) b = lft left (a + b) ∧ 0 ≤ lft left a ∧ lft left a ≤ left) := by
  unfold lft
  refine ⟨fun h1 => ?_, fun h1 => ?_⟩
  · by_cases h2 : (a : Int) ≤ left
    · rw [if_pos h2] at h1; omega
    · rw [if_neg (by omega)]
  · by_cases h2 : (a : Int) ≤ left
    · rw [if_pos h2] at h1 ⊢
      refine ⟨?_, by omega, by omega⟩
      by_cases h3 : (b : Int) ≤ left - a
      · rw [if_pos h3, if_pos (by omega)]; omega
      · rw [if_neg h3, if_neg (by omega)]
    · rw [if_neg h2] at h1; omega

set_option maxHeartbeats 1000000 in
theorem szClause_of {α : Type} (R : World → List Value → α → Prop) (P : α → Prop) (f : α → Nat) (hR : Lasts R) (hS : ∀ w vs x, R w vs x → ShExpr vs) (H : SzEl 32 R P f) : SzEl 66 (ClR R) (ClP P) (ClF f) := by
  rintro vs ⟨c1, c2⟩ left w ⟨p, x, rfl, h1, h2⟩ ⟨q1, q2⟩ h0 hm
  obtain ⟨i0, i1, s2, a3, l3, c3, a4, l4, c4, rfl⟩ := hS _ _ _ h1
  obtain ⟨i5, i6, s7, a8, l8, c8, a9, l9, c9, rfl⟩ := hS _ _ _ h2
  have hA : Below w.heap.size w (w.alloc (Obj.cells #[.int .i64 i0, .int .i64 i1, .string s2, .slice a3 l3 c3, .slice a4 l4 c4, .int .i64 i5, .int .i64 i6, .string s7, .slice a8 l8 c8, .slice a9 l9 c9] 100)) := (Below.refl _ _).alloc (Nat.le_refl _) _
  obtain ⟨W, hW⟩ : ∃ W, W = w.alloc (Obj.cells #[.int .i64 i0, .int .i64 i1, .string s2, .slice a3 l3 c3, .slice a4 l4 c4, .int .i64 i5, .int .i64 i6, .string s7, .slice a8 l8 c8, .slice a9 l9 c9] 100) := ⟨_, rfl⟩
  have hWc : W.heap[w.heap.size]? = some (Obj.cells #[.int .i64 i0, .int .i64 i1, .string s2, .slice a3 l3 c3, .slice a4 l4 c4, .int .i64 i5, .int .i64 i6, .string s7, .slice a8 l8 c8, .slice a9 l9 c9] 100 (0, 0)) := by rw [hW]; exact heap_alloc_new w _
  rw [← hW] at hA
  have hC := H _ c1 left W (hR _ _ _ _ h1 hA) q1 h0 hm
  obtain ⟨L1, L2⟩ := lft_two left (f c1) (f c2) h0
  have e0 : ClF f (c1, c2) = f c1 + f c2 := rfl
  rw [e0]
  rw [hW] at hC
  have HW : Hid (W = _) := hW
  have HFR : Hid (∀ V : World, Below W.heap.size W V → R V _ c2) := fun V hV => hR _ _ _ _ (hR _ _ _ _ h2 hA) hV
  have HZ : Hid (w.heap.size < W.heap.size ∧ Below w.heap.size w W) := ⟨lt_row hWc, hA⟩
  have HWC : Hid _ := hWc
  clear hW hA hWc e0 h1 h2 q1
  obtain ⟨y, hy⟩ : ∃ y, lft left (f c1) = y := ⟨_, rfl⟩
  rw [hy] at hC L1 L2
  clear hy
  by_cases hneg : y < 0
  · have HF : Hid (lft left (f c1 + f c2) = -1) := L1 hneg
    clear L1 L2
    go_enter Tryz.func66, Tryz.ntmps66
    go_wp2_with fail
    refine hC.mono ?_
    clear hC
    rintro e w1 ⟨rfl, hb1⟩
    rw [← HW.out] at hb1
    have hb2 : Below w.heap.size w w1 := HZ.out.2.trans (hb1.mono HZ.out.2.size)
    clear hb1
    go_wp2
    go_ret
    exact ⟨tret1 HF.out.symm, hb2⟩
  · obtain ⟨E1, E2, E3⟩ := L2 hneg
    clear L1 L2
    obtain ⟨z, hz⟩ : ∃ z, lft y (f c2) = z := ⟨_, rfl⟩
    rw [hz] at E1
    have HE : Hid (z = lft left (f c1 + f c2)) := E1
    have HZN : Hid (z < 0 → z = -1) := fun h => by
      rw [← hz] at h ⊢
      unfold lft at h ⊢
      split at h
      · omega
      · rename_i h4; rw [if_neg h4]
    have hm2 : y ≤ 1048576 := by omega
    go_enter Tryz.func66, Tryz.ntmps66
    go_wp2_with fail
    refine hC.mono ?_
    clear hC
    rintro e w1 ⟨rfl, hb1⟩
    rw [← HW.out] at hb1
    have hD := H _ c2 y w1 (HFR.out w1 hb1) q2 E2 hm2
    rw [hz] at hD
    have hh := (hb1.block _ HZ.out.1).trans HWC.out
    have f5 : w1.cell? ⟨w.heap.size, 5, none⟩ = some (.int .i64 i5) := by rw [cell_of_row w1 _ 5 _ _ _ hh]; rfl
    have f6 : w1.cell? ⟨w.heap.size, 6, none⟩ = some (.int .i64 i6) := by rw [cell_of_row w1 _ 6 _ _ _ hh]; rfl
    have f7 : w1.cell? ⟨w.heap.size, 7, none⟩ = some (.string s7) := by rw [cell_of_row w1 _ 7 _ _ _ hh]; rfl
    have f8 : w1.cell? ⟨w.heap.size, 8, none⟩ = some (.slice a8 l8 c8) := by rw [cell_of_row w1 _ 8 _ _ _ hh]; rfl
    have f9 : w1.cell? ⟨w.heap.size, 9, none⟩ = some (.slice a9 l9 c9) := by rw [cell_of_row w1 _ 9 _ _ _ hh]; rfl
    have hb2 : Below w.heap.size w w1 := HZ.out.2.trans (hb1.mono HZ.out.2.size)
    clear hb1 hh hz E1
    go_wp2_with fail
    refine hD.mono ?_
    clear hD f5 f6 f7 f8 f9
    rintro e w2 ⟨rfl, hb3⟩
    have hb4 : Below w.heap.size w w2 := hb2.trans (hb3.mono hb2.size)
    clear hb3 hb2
    by_cases hn2 : z < 0
    · have e1 := HZN.out hn2
      subst e1
      go_wp2
      go_ret
      exact ⟨tret1 HE.out, hb4⟩
    · go_wp2
      go_ret
      exact ⟨tret1 HE.out, hb4⟩

set_option maxHeartbeats 1000000 in
theorem szExpr_of (d : Nat) (HE : SzLs 46 5 (ExR d) (WfX d) (szX d)) (HC : SzLs 47 10 (ClR (ExR d)) (ClP (WfX d)) (ClF (szX d))) : SzEl 32 (ExR (d + 1)) (WfX (d + 1)) (szX (d + 1)) := by
  rintro vs x left w ⟨ve, vc, rfl, h1, h2⟩ ⟨w1, w2, w3, w4, w5⟩ h0 hm
  obtain ⟨a3, c3, rfl⟩ := h1.slice
  obtain ⟨a4, c4, rfl⟩ := h2.slice
  obtain ⟨l3, e3⟩ : ∃ l, x.E.length = l := ⟨_, rfl⟩
  obtain ⟨l4, e4⟩ : ∃ l, x.C.length = l := ⟨_, rfl⟩
  rw [e3] at h1 ⊢
  rw [e4] at h2 ⊢
  have hs : x.S.size ≤ 9223372036854775807 := by unfold maxLen at w3; omega
  obtain ⟨W, hW⟩ : ∃ W, W = w.alloc (Obj.cells #[.int .i64 x.K, .int .i64 x.N, .string x.S, .slice a3 l3 c3, .slice a4 l4 c4] 60) := ⟨_, rfl⟩
  have hA : Below w.heap.size w W := by rw [hW]; exact (Below.refl _ _).alloc (Nat.le_refl _) _
  have hWc : W.heap[w.heap.size]? = some (Obj.cells #[.int .i64 x.K, .int .i64 x.N, .string x.S, .slice a3 l3 c3, .slice a4 l4 c4] 60 (0, 0)) := by rw [hW]; exact heap_alloc_new w _
  obtain ⟨A, hA0⟩ : ∃ A, szRow (szX d) x.E = A := ⟨_, rfl⟩
  obtain ⟨B, hB0⟩ : ∃ B, szRow (ClF (szX d)) x.C = B := ⟨_, rfl⟩
  have e0 : szX (d + 1) x = x.S.size + A + B := by rw [← hA0, ← hB0]; rfl
  rw [e0]
  have HEE := HE _ _ (left - x.S.size) W (h1.later (ExR.lasts d) hA) w4
  have HCC : Hid (∀ V : World, Below W.heap.size W V → ∀ l : Int, 0 ≤ l → l ≤ 1048576 → _) := fun V hV l p1 p2 => HC _ _ l V ((h2.later (ClR.lasts (ExR.lasts d)) hA).later (ClR.lasts (ExR.lasts d)) hV) w5 p1 p2
  rw [hA0] at HEE
  rw [hB0] at HCC
  obtain ⟨K, hK⟩ : ∃ K, x.K = K := ⟨_, rfl⟩
  obtain ⟨N, hN⟩ : ∃ N, x.N = N := ⟨_, rfl⟩
  obtain ⟨S, hS⟩ : ∃ S, x.S = S := ⟨_, rfl⟩
  rw [hK, hN, hS] at hW hWc
  rw [hS] at HEE hs
  rw [hK, hN, hS]
  clear e0 hA0 hB0 w1 w2 w3 w4 w5 h1 h2 e3 e4 HE HC hK hN hS
  by_cases hlt : left < S.size
  · have HF : Hid ((-1 : Int) = lft left (S.size + A + B)) := by unfold lft; rw [if_neg (by omega)]; exact rfl
    rw [hW] at hA
    clear HEE hWc HCC
    go_enter Tryz.func32, Tryz.ntmps32
    go_wp2
    go_ret
    exact ⟨tret1 HF.out, hA⟩
  · have hC := HEE (by omega) (by omega)
    obtain ⟨L1, L2⟩ := lft_two (left - S.size) A B (by omega)
    have L0 : lft (left - S.size) (A + B) = lft left (S.size + A + B) := by
      unfold lft
      by_cases h : ((A + B : Nat) : Int) ≤ left - S.size
      · rw [if_pos h, if_pos (by omega)]; omega
      · rw [if_neg h, if_neg (by omega)]
    rw [L0] at L1 L2
    rw [hW] at hC
    have HW : Hid (W = _) := hW
    have HZ : Hid (w.heap.size < W.heap.size ∧ Below w.heap.size w W) := ⟨lt_row hWc, hA⟩
    have HWC : Hid _ := hWc
    clear hW hA hWc HEE L0
    obtain ⟨y, hy⟩ : ∃ y, lft (left - S.size) A = y := ⟨_, rfl⟩
    rw [hy] at hC L1 L2
    clear hy
    by_cases hneg : y < 0
    · have HF : Hid (lft left (S.size + A + B) = -1) := L1 hneg
      clear L1 L2
      go_enter Tryz.func32, Tryz.ntmps32
      go_wp2_with fail
      refine hC.mono ?_
      clear hC
      rintro e w1 ⟨rfl, hb1⟩
      rw [← HW.out] at hb1
      have hb2 : Below w.heap.size w w1 := HZ.out.2.trans (hb1.mono HZ.out.2.size)
      clear hb1
      go_wp2
      go_ret
      exact ⟨tret1 HF.out.symm, hb2⟩
    · obtain ⟨E1, E2, E3⟩ := L2 hneg
      clear L1 L2
      obtain ⟨z, hz⟩ : ∃ z, lft y B = z := ⟨_, rfl⟩
      rw [hz] at E1
      have HE : Hid (z = lft left (S.size + A + B)) := E1
      have HZN : Hid (z < 0 → z = -1) := fun h => by
        rw [← hz] at h ⊢
        unfold lft at h ⊢
        split at h
        · omega
        · rename_i h4; rw [if_neg h4]
      have hm2 : y ≤ 1048576 := by omega
      go_enter Tryz.func32, Tryz.ntmps32
      go_wp2_with fail
      refine hC.mono ?_
      clear hC
      rintro e w1 ⟨rfl, hb1⟩
      rw [← HW.out] at hb1
      have hD := HCC.out w1 hb1 y E2 hm2
      rw [hz] at hD
      have hh := (hb1.block _ HZ.out.1).trans HWC.out
      have f4 : w1.cell? ⟨w.heap.size, 4, none⟩ = some (.slice a4 l4 c4) := by rw [cell_of_row w1 _ 4 _ _ _ hh]; rfl
      have hb2 : Below w.heap.size w w1 := HZ.out.2.trans (hb1.mono HZ.out.2.size)
      clear hb1 hh hz E1 HCC
      go_wp2_with fail
      refine hD.mono ?_
      clear hD f4
      rintro e w2 ⟨rfl, hb3⟩
      have hb4 : Below w.heap.size w w2 := hb2.trans (hb3.mono hb2.size)
      clear hb3 hb2
      by_cases hn2 : z < 0
      · have e1 := HZN.out hn2
        subst e1
        go_wp2
        go_ret
        exact ⟨tret1 HE.out, hb4⟩
      · go_wp2
        go_ret
        exact ⟨tret1 HE.out, hb4⟩

theorem szExpr_any : ∀ d, SzEl 32 (ExR d) (WfX d) (szX d) := by
  intro d
  induction d with
  | zero => intro vs x left w h; exact h.elim
  | succ d ih => exact szExpr_of d (szExprS_of _ _ _ (ExR.lasts d) (ExR.shape d) ih) (szClauseS_of _ _ _ (ClR.lasts (ExR.lasts d)) (ClR.shape (ExR.shape d)) (szClause_of _ _ _ (ExR.lasts d) (ExR.shape d) ih))

end Go.Proofs.YtgeedoeaepcmcaaGreatDoor

/- The law's own copy and comparison of expressions: the walks. -/
namespace Go.Proofs.YtgeedoeaepcmcaaGreatDoor
open Go.RowKit
set_option linter.unusedVariables false

/-- Of all that was there only the blocks of a stretch are turned. -/
structure Kept (p q : Nat) (w w' : World) : Prop where
  os : w'.os = w.os
  tape : w'.tape = w.tape
  output : w'.output = w.output
  size : w.heap.size ≤ w'.heap.size
  block : ∀ g, g < w.heap.size → g < p ∨ q ≤ g → w'.heap[g]? = w.heap[g]?

theorem Kept.refl (p q : Nat) (w : World) : Kept p q w w := ⟨rfl, rfl, rfl, Nat.le_refl _, fun _ _ _ => rfl⟩
theorem Kept.trans {p q : Nat} {a b c : World} (h : Kept p q a b) (k : Kept p q b c) : Kept p q a c :=
  ⟨k.os.trans h.os, k.tape.trans h.tape, k.output.trans h.output, Nat.le_trans h.size k.size, fun g h1 h2 => (k.block g (Nat.lt_of_lt_of_le h1 h.size) h2).trans (h.block g h1 h2)⟩
theorem Kept.drew {p q : Nat} {a w : World} (h : Kept p q a w) : Kept p q a w.drew := h.trans ⟨rfl, rfl, rfl, Nat.le_refl _, fun _ _ _ => rfl⟩
theorem Kept.set {p q : Nat} {a w : World} {g o : Nat} {v : Value} (hg : p ≤ g ∧ g < q) (h : Kept p q a w) : Kept p q a (w.setCell ⟨g, o, none⟩ v) := by
  have b := (Below.refl g w).setCell (p := ⟨g, o, none⟩) (Nat.le_refl g) v
  exact h.trans ⟨b.os, b.tape, b.output, b.size, fun x h1 h2 => heap_setCell_other _ _ _ _ (by simp; omega)⟩
theorem Kept.of_below {p q : Nat} {a b : World} (h : Below a.heap.size a b) : Kept p q a b := ⟨h.os, h.tape, h.output, h.size, fun g hg _ => h.block g hg⟩
theorem Kept.below {p q B : Nat} {a b : World} (h : Kept p q a b) (hp : B ≤ p) (hB : B ≤ a.heap.size) : Below B a b := ⟨h.os, h.tape, h.output, h.size, fun g hg => h.block g (by omega) (.inl (by omega))⟩

theorem heap_three (w : World) (o1 o2 o3 : Obj) : (((w.alloc o1).alloc o2).alloc o3).heap[w.heap.size]? = some o1 ∧ (((w.alloc o1).alloc o2).alloc o3).heap[w.heap.size + 1]? = some o2 ∧ (((w.alloc o1).alloc o2).alloc o3).heap[w.heap.size + 1 + 1]? = some o3 := by
  have h1 := heap_alloc_new w o1
  have h2 := heap_alloc_new (w.alloc o1) o2
  have h3 := heap_alloc_new ((w.alloc o1).alloc o2) o3
  have z1 : (w.alloc o1).heap.size = w.heap.size + 1 := by simp
  have z2 : ((w.alloc o1).alloc o2).heap.size = w.heap.size + 1 + 1 := by simp
  rw [z1] at h2
  rw [z2] at h3
  refine ⟨?_, ?_, h3⟩
  · rw [Below.heap_alloc _ _ _ (by omega), Below.heap_alloc _ _ _ (by omega)]; exact h1
  · rw [Below.heap_alloc _ _ _ (by omega)]; exact h2

theorem fresh_two {B : Nat} {w1 V1 w2 Z : World} {f g : List Nat} {m : Nat} (h1 : Fresh m w1 f) (h2 : Fresh V1.heap.size w2 g) (z1 : w1.heap.size ≤ V1.heap.size) (z2 : V1.heap.size ≤ w2.heap.size) (z3 : w2.heap.size ≤ Z.heap.size) (hB : B ≤ m) (hV : B ≤ V1.heap.size) : Fresh B Z (f ++ g) := by
  refine ⟨List.nodup_append.2 ⟨h1.1, h2.1, fun a ha b hb e => by have := (h1.2 a ha).2; have := (h2.2 b hb).1; omega⟩, fun x hx => ?_⟩
  rcases List.mem_append.1 hx with hx | hx
  · have := h1.2 x hx; omega
  · have := h2.2 x hx; omega

set_option maxRecDepth 100000 in
set_option maxHeartbeats 2000000 in
theorem toClause_of {α : Type} (R : World → List Value → α → Prop) (O : World → List Value → α → List Nat → Prop) (P : α → Prop) (f : α → Nat) (hR : Lasts R) (hO : LastsO O) (hS : ∀ w vs x, R w vs x → ShExpr vs) (hSO : ∀ w vs x fp, O w vs x fp → ShExpr vs) (H : ToEl 37 R O P f) : ToEl 70 (ClR R) (ClO O) (ClP P) (ClF f) := by
  rintro vs ⟨c1, c2⟩ w ⟨p, x, rfl, h1, h2⟩ ⟨q1, q2⟩ hz
  have hz' : f c1 + f c2 ≤ 1048576 := hz
  obtain ⟨i0, i1, s2, a3, l3, c3, a4, l4, c4, rfl⟩ := hS _ _ _ h1
  obtain ⟨i5, i6, s7, a8, l8, c8, a9, l9, c9, rfl⟩ := hS _ _ _ h2
  obtain ⟨W, hW⟩ : ∃ W, W = ((w.alloc (Obj.cells #[.int .i64 i0, .int .i64 i1, .string s2, .slice a3 l3 c3, .slice a4 l4 c4, .int .i64 i5, .int .i64 i6, .string s7, .slice a8 l8 c8, .slice a9 l9 c9] 100)).alloc (.cells #[.int .i64 0, .int .i64 0, .string ⟨#[]⟩, .slice none 0 0, .slice none 0 0, .int .i64 0, .int .i64 0, .string ⟨#[]⟩, .slice none 0 0, .slice none 0 0] 67)).alloc (.cells #[.int .i64 0, .int .i64 0, .string ⟨#[]⟩, .slice none 0 0, .slice none 0 0, .int .i64 0, .int .i64 0, .string ⟨#[]⟩, .slice none 0 0, .slice none 0 0] 67) := ⟨_, rfl⟩
  obtain ⟨nA, nB, nC⟩ := heap_three w (Obj.cells #[.int .i64 i0, .int .i64 i1, .string s2, .slice a3 l3 c3, .slice a4 l4 c4, .int .i64 i5, .int .i64 i6, .string s7, .slice a8 l8 c8, .slice a9 l9 c9] 100) (.cells #[.int .i64 0, .int .i64 0, .string ⟨#[]⟩, .slice none 0 0, .slice none 0 0, .int .i64 0, .int .i64 0, .string ⟨#[]⟩, .slice none 0 0, .slice none 0 0] 67) (.cells #[.int .i64 0, .int .i64 0, .string ⟨#[]⟩, .slice none 0 0, .slice none 0 0, .int .i64 0, .int .i64 0, .string ⟨#[]⟩, .slice none 0 0, .slice none 0 0] 67)
  rw [← hW] at nA nB nC
  have hWb : Below w.heap.size w W := by rw [hW]; exact (((Below.refl _ _).alloc (Nat.le_refl _) _).alloc (by simp) _).alloc (by simp; omega) _
  have hWs : W.heap.size = w.heap.size + 1 + 1 + 1 := by rw [hW]; simp
  have hC := H _ c1 W (hR _ _ _ _ h1 hWb) q1 (by omega)
  have HR2 : Hid (∀ V : World, Below w.heap.size w V → R V _ c2) := fun V hV => hR _ _ _ _ h2 hV
  rw [hW] at hC
  have HW : Hid (W = _) := hW
  have HN : Hid (_ ∧ _ ∧ _) := ⟨nA, nB, nC⟩
  clear hW h1 h2 nA nB nC q1
  go_enter Tryz.func70, Tryz.ntmps70
  go_wp2_with fail
  refine hC.mono ?_
  clear hC
  rintro e w1 ⟨vs1, fp1, rfl, hown1, hfr1, hb1⟩
  rw [← HW.out] at hfr1 hb1
  obtain ⟨yi0, yi1, ys2, ya3, yl3, yc3, ya4, yl4, yc4, rfl⟩ := hSO _ _ _ _ hown1
  obtain ⟨nA, nB, nC⟩ := HN.out
  have nA1 := (hb1.block _ (by omega)).trans nA
  have nB1 := (hb1.block _ (by omega)).trans nB
  have nC1 := (hb1.block _ (by omega)).trans nC
  obtain ⟨V1, hV1⟩ : ∃ V, V = setL w1 (w.heap.size + 1 + 1) 0 [.int .i64 yi0, .int .i64 yi1, .string ys2, .slice ya3 yl3 yc3, .slice ya4 yl4 yc4] := ⟨_, rfl⟩
  have hzV : V1.heap.size = w1.heap.size := by rw [hV1]; exact setL_size _ _ _ _
  have hkV : ∀ j, j ≠ w.heap.size + 1 + 1 → V1.heap[j]? = w1.heap[j]? := fun j hj => by rw [hV1]; exact setL_other _ _ _ _ _ hj
  have hbV : Below (w.heap.size + 1 + 1) w1 V1 := by rw [hV1]; exact setL_below _ _ _ _ _ (Nat.le_refl _)
  have nAV := (hkV _ (by omega)).trans nA1
  have nBV := (hkV _ (by omega)).trans nB1
  have nCV : V1.heap[w.heap.size + 1 + 1]? = some (.cells #[.int .i64 yi0, .int .i64 yi1, .string ys2, .slice ya3 yl3 yc3, .slice ya4 yl4 yc4, .int .i64 0, .int .i64 0, .string ⟨#[]⟩, .slice none 0 0, .slice none 0 0] 67 (0, 0)) := by rw [hV1]; exact setL_row _ _ _ _ _ _ nC1
  have hbw1 : Below w.heap.size w w1 := hWb.trans (hb1.mono hWb.size)
  have hbwV : Below w.heap.size w V1 := hbw1.trans (hbV.mono (by omega))
  have hown1V : O V1 _ c1 fp1 := hO _ _ _ _ _ hown1 fun g hg => hkV g (by have := (hfr1.2 g hg).1; omega)
  have hz1 := hb1.size
  have hD := H _ c2 V1 (HR2.out V1 hbwV) q2 (by omega)
  rw [hV1] at hD
  have HV1 : Hid (V1 = _) := hV1
  have HO1 : Hid (O V1 _ c1 fp1) := hown1V
  have HB1 : Hid (Below w.heap.size w V1 ∧ Fresh W.heap.size w1 fp1 ∧ V1.heap.size = w1.heap.size) := ⟨hbwV, hfr1, hzV⟩
  have HNV : Hid (_ ∧ _ ∧ _) := ⟨nAV, nBV, nCV⟩
  have hcell : ∀ j u, (#[.int .i64 i0, .int .i64 i1, .string s2, .slice a3 l3 c3, .slice a4 l4 c4, .int .i64 i5, .int .i64 i6, .string s7, .slice a8 l8 c8, .slice a9 l9 c9] : Array Value)[j]? = some u → w1.cell? ⟨w.heap.size, j, none⟩ = some u := fun j u hu => by rw [cell_of_row w1 _ _ _ _ _ nA1]; exact hu
  have f5 := hcell 5 _ rfl
  have f6 := hcell 6 _ rfl
  have f7 := hcell 7 _ rfl
  have f8 := hcell 8 _ rfl
  have f9 := hcell 9 _ rfl
  have ccell : ∀ j u, (#[.int .i64 0, .int .i64 0, .string ⟨#[]⟩, .slice none 0 0, .slice none 0 0, .int .i64 0, .int .i64 0, .string ⟨#[]⟩, .slice none 0 0, .slice none 0 0] : Array Value)[j]? = some u → w1.cell? ⟨w.heap.size + 1 + 1, j, none⟩ = some u := fun j u hu => by rw [cell_of_row w1 _ _ _ _ _ nC1]; exact hu
  have g0 := ccell 0 _ rfl
  have g1 := ccell 1 _ rfl
  have g2 := ccell 2 _ rfl
  have g3 := ccell 3 _ rfl
  have g4 := ccell 4 _ rfl
  have hfz : ∀ j, w1.frozen? ⟨w.heap.size + 1 + 1, j, none⟩ = false := fun j => frozen_of_row w1 _ _ _ _ nC1
  have z0 := hfz 0
  have z1 := hfz 1
  have z2 := hfz 2
  have z3 := hfz 3
  have z4 := hfz 4
  clear hV1 nA1 nB1 nC1 nA nB nC nAV nBV nCV hbw1 hbwV hown1V hown1 hfr1 hkV hbV hcell ccell hfz HN HR2 hb1 hzV
  go_wp2_with fail
  refine hD.mono ?_
  clear hD f5 f6 f7 f8 f9 g0 g1 g2 g3 g4 z0 z1 z2 z3 z4
  rintro e w2 ⟨vs2, fp2, rfl, hown2, hfr2, hb2⟩
  have hfr2' : Fresh V1.heap.size w2 fp2 := by rw [HV1.out]; exact hfr2
  have hb2' : Below V1.heap.size V1 w2 := by rw [HV1.out]; exact hb2
  clear hfr2 hb2
  obtain ⟨xi0, xi1, xs2, xa3, xl3, xc3, xa4, xl4, xc4, rfl⟩ := hSO _ _ _ _ hown2
  obtain ⟨nAV, nBV, nCV⟩ := HNV.out
  have hzB := HB1.out.2.2
  have nB2 := (hb2'.block _ (lt_row nBV)).trans nBV
  have nC2 := (hb2'.block _ (lt_row nCV)).trans nCV
  have hz2 := hb2'.size
  have HFIN : Hid (∀ Z, Kept (w.heap.size + 1) (w.heap.size + 1 + 1 + 1) w2 Z → ClO O Z [.int .i64 yi0, .int .i64 yi1, .string ys2, .slice ya3 yl3 yc3, .slice ya4 yl4 yc4, .int .i64 xi0, .int .i64 xi1, .string xs2, .slice xa3 xl3 xc3, .slice xa4 xl4 xc4] (c1, c2) (fp1 ++ fp2) ∧ Fresh w.heap.size Z (fp1 ++ fp2) ∧ Below w.heap.size w Z) := fun Z hZ => by
    have hf1 := HB1.out.2.1
    have hzZ := hZ.size
    refine ⟨⟨[.int .i64 yi0, .int .i64 yi1, .string ys2, .slice ya3 yl3 yc3, .slice ya4 yl4 yc4], [.int .i64 xi0, .int .i64 xi1, .string xs2, .slice xa3 xl3 xc3, .slice xa4 xl4 xc4], fp1, fp2, rfl, rfl, ?_, ?_⟩, ?_, ?_⟩
    · refine hO _ _ _ _ _ HO1.out fun g hg => ?_
      have := hf1.2 g hg
      exact (hZ.block g (by omega) (.inr (by omega))).trans (hb2'.block g (by omega))
    · exact hO _ _ _ _ _ hown2 fun g hg => hZ.block g (hfr2'.2 g hg).2 (.inr (by have := (hfr2'.2 g hg).1; omega))
    · exact fresh_two hf1 hfr2' (by omega) hz2 hzZ (by omega) (by omega)
    · have hbw2 : Below w.heap.size w w2 := HB1.out.1.trans (hb2'.mono HB1.out.1.size)
      exact hbw2.trans (hZ.below (by omega) hbw2.size)
  have bcell : ∀ j u, (#[.int .i64 0, .int .i64 0, .string ⟨#[]⟩, .slice none 0 0, .slice none 0 0, .int .i64 0, .int .i64 0, .string ⟨#[]⟩, .slice none 0 0, .slice none 0 0] : Array Value)[j]? = some u → w2.cell? ⟨w.heap.size + 1, j, none⟩ = some u := fun j u hu => by rw [cell_of_row w2 _ _ _ _ _ nB2]; exact hu
  have ccell : ∀ j u, (#[.int .i64 yi0, .int .i64 yi1, .string ys2, .slice ya3 yl3 yc3, .slice ya4 yl4 yc4, .int .i64 0, .int .i64 0, .string ⟨#[]⟩, .slice none 0 0, .slice none 0 0] : Array Value)[j]? = some u → w2.cell? ⟨w.heap.size + 1 + 1, j, none⟩ = some u := fun j u hu => by rw [cell_of_row w2 _ _ _ _ _ nC2]; exact hu
  have hfB : ∀ j, w2.frozen? ⟨w.heap.size + 1, j, none⟩ = false := fun j => frozen_of_row w2 _ _ _ _ nB2
  have hfC : ∀ j, w2.frozen? ⟨w.heap.size + 1 + 1, j, none⟩ = false := fun j => frozen_of_row w2 _ _ _ _ nC2
  have b0 := bcell 0 _ rfl
  have y0 := hfB 0
  have g0 := ccell 0 _ rfl
  have z0 := hfC 0
  have b1 := bcell 1 _ rfl
  have y1 := hfB 1
  have g1 := ccell 1 _ rfl
  have z1 := hfC 1
  have b2 := bcell 2 _ rfl
  have y2 := hfB 2
  have g2 := ccell 2 _ rfl
  have z2 := hfC 2
  have b3 := bcell 3 _ rfl
  have y3 := hfB 3
  have g3 := ccell 3 _ rfl
  have z3 := hfC 3
  have b4 := bcell 4 _ rfl
  have y4 := hfB 4
  have g4 := ccell 4 _ rfl
  have z4 := hfC 4
  have b5 := bcell 5 _ rfl
  have y5 := hfB 5
  have g5 := ccell 5 _ rfl
  have z5 := hfC 5
  have b6 := bcell 6 _ rfl
  have y6 := hfB 6
  have g6 := ccell 6 _ rfl
  have z6 := hfC 6
  have b7 := bcell 7 _ rfl
  have y7 := hfB 7
  have g7 := ccell 7 _ rfl
  have z7 := hfC 7
  have b8 := bcell 8 _ rfl
  have y8 := hfB 8
  have g8 := ccell 8 _ rfl
  have z8 := hfC 8
  have b9 := bcell 9 _ rfl
  have y9 := hfB 9
  have g9 := ccell 9 _ rfl
  have z9 := hfC 9
  clear nB2 nC2 nAV nBV nCV hown2 hfr2' hb2' HO1 HB1 HNV bcell ccell hfB hfC
  go_wp2_with fail
  refine bodyPost_ret (v := .agg #[.int .i64 yi0, .int .i64 yi1, .string ys2, .slice ya3 yl3 yc3, .slice ya4 yl4 yc4, .int .i64 xi0, .int .i64 xi1, .string xs2, .slice xa3 xl3 xc3, .slice xa4 xl4 xc4]) (by first | (simp [results, Tryz.results70, go_sem, b0, b1, b2, b3, b4, b5, b6, b7, b8, b9]; done) | (simp [results, Tryz.results70, go_sem, b0, b1, b2, b3, b4, b5, b6, b7, b8, b9]; rfl)) rfl ⟨[.int .i64 yi0, .int .i64 yi1, .string ys2, .slice ya3 yl3 yc3, .slice ya4 yl4 yc4, .int .i64 xi0, .int .i64 xi1, .string xs2, .slice xa3 xl3 xc3, .slice xa4 xl4 xc4], _, rfl, HFIN.out _ ?_⟩
  repeat (first | with_reducible exact Kept.refl _ _ _ | with_reducible refine Kept.drew ?_ | (with_reducible refine Kept.set ?_ ?_; omega))

end Go.Proofs.YtgeedoeaepcmcaaGreatDoor

/- The law's own copy and comparison of expressions: the rest of the walks. -/
namespace Go.Proofs.YtgeedoeaepcmcaaGreatDoor
open Go.RowKit
set_option linter.unusedVariables false

set_option maxRecDepth 100000 in
set_option maxHeartbeats 2000000 in
theorem toExpr_of (d : Nat) (HE : ToLs 55 5 39 (ExR d) (ExO d) (WfX d) (szX d)) (HC : ToLs 56 10 67 (ClR (ExR d)) (ClO (ExO d)) (ClP (WfX d)) (ClF (szX d))) : ToEl 37 (ExR (d + 1)) (ExO (d + 1)) (WfX (d + 1)) (szX (d + 1)) := by
  rintro vs x w ⟨ve, vc, rfl, h1, h2⟩ ⟨_, _, _, w4, w5⟩ hz
  have hz' : x.S.size + szRow (szX d) x.E + szRow (ClF (szX d)) x.C ≤ 1048576 := hz
  obtain ⟨a3, c3, rfl⟩ := h1.slice
  obtain ⟨a4, c4, rfl⟩ := h2.slice
  obtain ⟨l3, e3⟩ : ∃ l, x.E.length = l := ⟨_, rfl⟩
  obtain ⟨l4, e4⟩ : ∃ l, x.C.length = l := ⟨_, rfl⟩
  rw [e3] at h1 ⊢
  rw [e4] at h2 ⊢
  obtain ⟨K, hK⟩ : ∃ K, x.K = K := ⟨_, rfl⟩
  obtain ⟨N, hN⟩ : ∃ N, x.N = N := ⟨_, rfl⟩
  obtain ⟨S, hS⟩ : ∃ S, x.S = S := ⟨_, rfl⟩
  have HX : Hid (x.K = K ∧ x.N = N ∧ x.S = S) := ⟨hK, hN, hS⟩
  rw [hK, hN, hS]
  obtain ⟨W, hW⟩ : ∃ W, W = ((w.alloc (Obj.cells #[.int .i64 K, .int .i64 N, .string S, .slice a3 l3 c3, .slice a4 l4 c4] 60)).alloc (.cells #[.int .i64 0, .int .i64 0, .string ⟨#[]⟩, .slice none 0 0, .slice none 0 0] 39)).alloc (.cells #[.int .i64 K, .int .i64 N, .string S, .slice none 0 0, .slice none 0 0] 39) := ⟨_, rfl⟩
  obtain ⟨nA, nB, nC⟩ := heap_three w (Obj.cells #[.int .i64 K, .int .i64 N, .string S, .slice a3 l3 c3, .slice a4 l4 c4] 60) (.cells #[.int .i64 0, .int .i64 0, .string ⟨#[]⟩, .slice none 0 0, .slice none 0 0] 39) (.cells #[.int .i64 K, .int .i64 N, .string S, .slice none 0 0, .slice none 0 0] 39)
  rw [← hW] at nA nB nC
  have hWb : Below w.heap.size w W := by rw [hW]; exact (((Below.refl _ _).alloc (Nat.le_refl _) _).alloc (by simp) _).alloc (by simp; omega) _
  have hWs : W.heap.size = w.heap.size + 1 + 1 + 1 := by rw [hW]; simp
  have hC := HE _ _ W (h1.later (ExR.lasts d) hWb) w4 (by omega)
  have HR2 : Hid (∀ V : World, Below w.heap.size w V → _) := fun V hV => HC _ _ V (h2.later (ClR.lasts (ExR.lasts d)) hV) w5 (by omega)
  rw [hW] at hC
  have HW : Hid (W = _) := hW
  have HN : Hid (_ ∧ _ ∧ _) := ⟨nA, nB, nC⟩
  clear hW h1 h2 nA nB nC w4 w5 hz hz' HE HC hK hN hS e3 e4
  go_enter Tryz.func37, Tryz.ntmps37
  go_wp2_with fail
  refine hC.mono ?_
  clear hC
  rintro e w1 ⟨ya3, yl3, yc3, fp1, rfl, hown1, hfr1, hb1⟩
  rw [← HW.out] at hfr1 hb1
  obtain ⟨nA, nB, nC⟩ := HN.out
  have nA1 := (hb1.block _ (by omega)).trans nA
  have nB1 := (hb1.block _ (by omega)).trans nB
  have nC1 := (hb1.block _ (by omega)).trans nC
  obtain ⟨V1, hV1⟩ : ∃ V, V = w1.setCell ⟨w.heap.size + 1 + 1, 3, none⟩ (.slice ya3 yl3 yc3) := ⟨_, rfl⟩
  have hV1' : V1 = setL w1 (w.heap.size + 1 + 1) 3 [.slice ya3 yl3 yc3] := hV1
  have hzV : V1.heap.size = w1.heap.size := by rw [hV1']; exact setL_size _ _ _ _
  have hkV : ∀ j, j ≠ w.heap.size + 1 + 1 → V1.heap[j]? = w1.heap[j]? := fun j hj => by rw [hV1']; exact setL_other _ _ _ _ _ hj
  have hbV : Below (w.heap.size + 1 + 1) w1 V1 := by rw [hV1']; exact setL_below _ _ _ _ _ (Nat.le_refl _)
  have nAV := (hkV _ (by omega)).trans nA1
  have nBV := (hkV _ (by omega)).trans nB1
  have nCV : V1.heap[w.heap.size + 1 + 1]? = some (.cells #[.int .i64 K, .int .i64 N, .string S, .slice ya3 yl3 yc3, .slice none 0 0] 39 (0, 0)) := by rw [hV1']; exact setL_row _ _ _ _ _ _ nC1
  have hbw1 : Below w.heap.size w w1 := hWb.trans (hb1.mono hWb.size)
  have hbwV : Below w.heap.size w V1 := hbw1.trans (hbV.mono (by omega))
  have hown1V := hown1.frame (w' := V1) (ExO.lasts d) fun g hg => hkV g (by have := (hfr1.2 g hg).1; omega)
  have hz1 := hb1.size
  have hD := HR2.out V1 hbwV
  rw [hV1] at hD
  have HV1 : Hid (V1 = _) := hV1
  have HO1 : Hid (OwnRow 5 39 (ExO d) V1 (.slice ya3 yl3 yc3) x.E fp1) := hown1V
  have HB1 : Hid (Below w.heap.size w V1 ∧ Fresh W.heap.size w1 fp1 ∧ V1.heap.size = w1.heap.size) := ⟨hbwV, hfr1, hzV⟩
  have HNV : Hid (_ ∧ _ ∧ _) := ⟨nAV, nBV, nCV⟩
  have f4 : w1.cell? ⟨w.heap.size, 4, none⟩ = some (.slice a4 l4 c4) := by rw [cell_of_row w1 _ 4 _ _ _ nA1]; rfl
  have g3 : w1.cell? ⟨w.heap.size + 1 + 1, 3, none⟩ = some (.slice none 0 0) := by rw [cell_of_row w1 _ 3 _ _ _ nC1]; rfl
  have z3 : w1.frozen? ⟨w.heap.size + 1 + 1, 3, none⟩ = false := frozen_of_row w1 _ _ _ _ nC1
  clear hV1 hV1' nA1 nB1 nC1 nA nB nC nAV nBV nCV hbw1 hbwV hown1V hown1 hfr1 hkV hbV HN HR2 hb1 hzV
  go_wp2_with fail
  refine hD.mono ?_
  clear hD f4 g3 z3
  rintro e w2 ⟨xa4, xl4, xc4, fp2, rfl, hown2, hfr2, hb2⟩
  have hfr2' : Fresh V1.heap.size w2 fp2 := by rw [HV1.out]; exact hfr2
  have hb2' : Below V1.heap.size V1 w2 := by rw [HV1.out]; exact hb2
  clear hfr2 hb2
  obtain ⟨nAV, nBV, nCV⟩ := HNV.out
  have hzB := HB1.out.2.2
  have nB2 := (hb2'.block _ (lt_row nBV)).trans nBV
  have nC2 := (hb2'.block _ (lt_row nCV)).trans nCV
  have hz2 := hb2'.size
  have HFIN : Hid (∀ Z, Kept (w.heap.size + 1) (w.heap.size + 1 + 1 + 1) w2 Z → ExO (d + 1) Z [.int .i64 K, .int .i64 N, .string S, .slice ya3 yl3 yc3, .slice xa4 xl4 xc4] x (fp1 ++ fp2) ∧ Fresh w.heap.size Z (fp1 ++ fp2) ∧ Below w.heap.size w Z) := fun Z hZ => by
    have hf1 := HB1.out.2.1
    have hzZ := hZ.size
    obtain ⟨rfl, rfl, rfl⟩ := HX.out
    refine ⟨⟨_, _, fp1, fp2, rfl, rfl, ?_, ?_⟩, ?_, ?_⟩
    · refine HO1.out.frame (ExO.lasts d) fun g hg => ?_
      have := hf1.2 g hg
      exact (hZ.block g (by omega) (.inr (by omega))).trans (hb2'.block g (by omega))
    · exact hown2.frame (ClO.lasts (ExO.lasts d)) fun g hg => hZ.block g (hfr2'.2 g hg).2 (.inr (by have := (hfr2'.2 g hg).1; omega))
    · exact fresh_two hf1 hfr2' (by omega) hz2 hzZ (by omega) (by omega)
    · have hbw2 : Below w.heap.size w w2 := HB1.out.1.trans (hb2'.mono HB1.out.1.size)
      exact hbw2.trans (hZ.below (by omega) hbw2.size)
  have bcell : ∀ j u, (#[.int .i64 0, .int .i64 0, .string ⟨#[]⟩, .slice none 0 0, .slice none 0 0] : Array Value)[j]? = some u → w2.cell? ⟨w.heap.size + 1, j, none⟩ = some u := fun j u hu => by rw [cell_of_row w2 _ _ _ _ _ nB2]; exact hu
  have ccell : ∀ j u, (#[.int .i64 K, .int .i64 N, .string S, .slice ya3 yl3 yc3, .slice none 0 0] : Array Value)[j]? = some u → w2.cell? ⟨w.heap.size + 1 + 1, j, none⟩ = some u := fun j u hu => by rw [cell_of_row w2 _ _ _ _ _ nC2]; exact hu
  have hfB : ∀ j, w2.frozen? ⟨w.heap.size + 1, j, none⟩ = false := fun j => frozen_of_row w2 _ _ _ _ nB2
  have hfC : ∀ j, w2.frozen? ⟨w.heap.size + 1 + 1, j, none⟩ = false := fun j => frozen_of_row w2 _ _ _ _ nC2
  have b0 := bcell 0 _ rfl
  have y0 := hfB 0
  have g0 := ccell 0 _ rfl
  have z0 := hfC 0
  have b1 := bcell 1 _ rfl
  have y1 := hfB 1
  have g1 := ccell 1 _ rfl
  have z1 := hfC 1
  have b2 := bcell 2 _ rfl
  have y2 := hfB 2
  have g2 := ccell 2 _ rfl
  have z2 := hfC 2
  have b3 := bcell 3 _ rfl
  have y3 := hfB 3
  have g3 := ccell 3 _ rfl
  have z3 := hfC 3
  have b4 := bcell 4 _ rfl
  have y4 := hfB 4
  have g4 := ccell 4 _ rfl
  have z4 := hfC 4
  clear nB2 nC2 nAV nBV nCV hown2 hfr2' hb2' HO1 HB1 HNV bcell ccell hfB hfC
  go_wp2_with fail
  refine bodyPost_ret (v := .agg #[.int .i64 K, .int .i64 N, .string S, .slice ya3 yl3 yc3, .slice xa4 xl4 xc4]) (by first | (simp [results, Tryz.results37, go_sem, b0, b1, b2, b3, b4]; done) | (simp [results, Tryz.results37, go_sem, b0, b1, b2, b3, b4]; rfl)) rfl ⟨[.int .i64 K, .int .i64 N, .string S, .slice ya3 yl3 yc3, .slice xa4 xl4 xc4], _, rfl, HFIN.out _ ?_⟩
  repeat (first | with_reducible exact Kept.refl _ _ _ | with_reducible refine Kept.drew ?_ | (with_reducible refine Kept.set ?_ ?_; omega))

theorem toExpr_any : ∀ d, ToEl 37 (ExR d) (ExO d) (WfX d) (szX d) := by
  intro d
  induction d with
  | zero => intro vs x w h; exact h.elim
  | succ d ih => exact toExpr_of d (toExprS_of _ _ _ _ (ExR.lasts d) (ExO.lasts d) (ExR.shape d) (ExO.shape d) ih) (toClauseS_of _ _ _ _ (ClR.lasts (ExR.lasts d)) (ClO.lasts (ExO.lasts d)) (ClR.shape (ExR.shape d)) (ClO.shape (ExO.shape d)) (toClause_of _ _ _ _ (ExR.lasts d) (ExO.lasts d) (ExR.shape d) (ExO.shape d) ih))

set_option maxHeartbeats 1000000 in
theorem eqClause_of {α : Type} (R : World → List Value → α → Prop) (P : α → Prop) (hR : Lasts R) (hS : ∀ w vs x, R w vs x → ShExpr vs) (H : EqEl 45 R P) : EqEl 79 (ClR R) (ClP P) := by
  rintro vs1 vs2 ⟨c1, c2⟩ w ⟨p, x, rfl, h1, h2⟩ ⟨p', x', rfl, h1', h2'⟩ ⟨q1, q2⟩
  obtain ⟨i0, i1, s2, a3, l3, c3, a4, l4, c4, rfl⟩ := hS _ _ _ h1
  obtain ⟨i5, i6, s7, a8, l8, c8, a9, l9, c9, rfl⟩ := hS _ _ _ h2
  obtain ⟨j0, j1, t2, b3, m3, d3, b4, m4, d4, rfl⟩ := hS _ _ _ h1'
  obtain ⟨j5, j6, t7, b8, m8, d8, b9, m9, d9, rfl⟩ := hS _ _ _ h2'
  obtain ⟨W, hW⟩ : ∃ W, W = (w.alloc (Obj.cells #[.int .i64 i0, .int .i64 i1, .string s2, .slice a3 l3 c3, .slice a4 l4 c4, .int .i64 i5, .int .i64 i6, .string s7, .slice a8 l8 c8, .slice a9 l9 c9] 67)).alloc (Obj.cells #[.int .i64 j0, .int .i64 j1, .string t2, .slice b3 m3 d3, .slice b4 m4 d4, .int .i64 j5, .int .i64 j6, .string t7, .slice b8 m8 d8, .slice b9 m9 d9] 67) := ⟨_, rfl⟩
  have hA : Below w.heap.size w W := by rw [hW]; exact ((Below.refl _ _).alloc (Nat.le_refl _) _).alloc (by simp) _
  have n1 : W.heap[w.heap.size]? = some (Obj.cells #[.int .i64 i0, .int .i64 i1, .string s2, .slice a3 l3 c3, .slice a4 l4 c4, .int .i64 i5, .int .i64 i6, .string s7, .slice a8 l8 c8, .slice a9 l9 c9] 67 (0, 0)) := by rw [hW, Below.heap_alloc _ _ _ (by simp)]; exact heap_alloc_new w _
  have n2 : W.heap[w.heap.size + 1]? = some (Obj.cells #[.int .i64 j0, .int .i64 j1, .string t2, .slice b3 m3 d3, .slice b4 m4 d4, .int .i64 j5, .int .i64 j6, .string t7, .slice b8 m8 d8, .slice b9 m9 d9] 67 (0, 0)) := by rw [hW]; have := heap_alloc_new (w.alloc (Obj.cells #[.int .i64 i0, .int .i64 i1, .string s2, .slice a3 l3 c3, .slice a4 l4 c4, .int .i64 i5, .int .i64 i6, .string s7, .slice a8 l8 c8, .slice a9 l9 c9] 67)) (Obj.cells #[.int .i64 j0, .int .i64 j1, .string t2, .slice b3 m3 d3, .slice b4 m4 d4, .int .i64 j5, .int .i64 j6, .string t7, .slice b8 m8 d8, .slice b9 m9 d9] 67); simpa using this
  have hC := H _ _ c1 W (hR _ _ _ _ h1 hA) (hR _ _ _ _ h1' hA) q1
  have H2 : Hid (∀ V : World, Below w.heap.size w V → _) := fun V hV => H _ _ c2 V (hR _ _ _ _ h2 hV) (hR _ _ _ _ h2' hV) q2
  rw [hW] at hC
  have HW : Hid (W = _) := hW
  have HN : Hid (_ ∧ _) := ⟨n1, n2⟩
  clear hW n1 n2 h1 h2 h1' h2' q1 q2
  go_enter Tryz.func79, Tryz.ntmps79
  go_wp2_with fail
  refine hC.mono ?_
  clear hC
  rintro e w1 ⟨rfl, hb1⟩
  rw [← HW.out] at hb1
  have hb2 : Below w.heap.size w w1 := hA.trans (hb1.mono hA.size)
  obtain ⟨n1, n2⟩ := HN.out
  have m1 := (hb1.block _ (lt_row n1)).trans n1
  have m2 := (hb1.block _ (lt_row n2)).trans n2
  have f5 : w1.cell? ⟨w.heap.size, 5, none⟩ = some (.int .i64 i5) := by rw [cell_of_row w1 _ 5 _ _ _ m1]; rfl
  have g5 : w1.cell? ⟨w.heap.size + 1, 5, none⟩ = some (.int .i64 j5) := by rw [cell_of_row w1 _ 5 _ _ _ m2]; rfl
  have f6 : w1.cell? ⟨w.heap.size, 6, none⟩ = some (.int .i64 i6) := by rw [cell_of_row w1 _ 6 _ _ _ m1]; rfl
  have g6 : w1.cell? ⟨w.heap.size + 1, 6, none⟩ = some (.int .i64 j6) := by rw [cell_of_row w1 _ 6 _ _ _ m2]; rfl
  have f7 : w1.cell? ⟨w.heap.size, 7, none⟩ = some (.string s7) := by rw [cell_of_row w1 _ 7 _ _ _ m1]; rfl
  have g7 : w1.cell? ⟨w.heap.size + 1, 7, none⟩ = some (.string t7) := by rw [cell_of_row w1 _ 7 _ _ _ m2]; rfl
  have f8 : w1.cell? ⟨w.heap.size, 8, none⟩ = some (.slice a8 l8 c8) := by rw [cell_of_row w1 _ 8 _ _ _ m1]; rfl
  have g8 : w1.cell? ⟨w.heap.size + 1, 8, none⟩ = some (.slice b8 m8 d8) := by rw [cell_of_row w1 _ 8 _ _ _ m2]; rfl
  have f9 : w1.cell? ⟨w.heap.size, 9, none⟩ = some (.slice a9 l9 c9) := by rw [cell_of_row w1 _ 9 _ _ _ m1]; rfl
  have g9 : w1.cell? ⟨w.heap.size + 1, 9, none⟩ = some (.slice b9 m9 d9) := by rw [cell_of_row w1 _ 9 _ _ _ m2]; rfl
  have hD := H2.out w1 hb2
  clear m1 m2 n1 n2 hb1 H2 HN
  go_wp2_with fail
  refine hD.mono ?_
  clear hD
  rintro e w2 ⟨rfl, hb3⟩
  have hb4 : Below w.heap.size w w2 := hb2.trans (hb3.mono hb2.size)
  clear hb3 hb2 hA
  go_wp2
  go_ret
  exact ⟨rfl, hb4⟩

set_option maxHeartbeats 1000000 in
theorem eqExpr_of (d : Nat) (HE : EqLs 64 5 (ExR d) (WfX d)) (HC : EqLs 65 10 (ClR (ExR d)) (ClP (WfX d))) : EqEl 45 (ExR (d + 1)) (WfX (d + 1)) := by
  rintro vs1 vs2 x w ⟨ve, vc, rfl, h1, h2⟩ ⟨ve', vc', rfl, h1', h2'⟩ ⟨_, _, _, w4, w5⟩
  obtain ⟨a3, c3, rfl⟩ := h1.slice
  obtain ⟨a4, c4, rfl⟩ := h2.slice
  obtain ⟨b3, d3, rfl⟩ := h1'.slice
  obtain ⟨b4, d4, rfl⟩ := h2'.slice
  obtain ⟨l3, e3⟩ : ∃ l, x.E.length = l := ⟨_, rfl⟩
  obtain ⟨l4, e4⟩ : ∃ l, x.C.length = l := ⟨_, rfl⟩
  rw [e3] at h1 h1' ⊢
  rw [e4] at h2 h2' ⊢
  obtain ⟨K, hK⟩ : ∃ K, x.K = K := ⟨_, rfl⟩
  obtain ⟨N, hN⟩ : ∃ N, x.N = N := ⟨_, rfl⟩
  obtain ⟨S, hS⟩ : ∃ S, x.S = S := ⟨_, rfl⟩
  rw [hK, hN, hS]
  obtain ⟨W, hW⟩ : ∃ W, W = (w.alloc (Obj.cells #[.int .i64 K, .int .i64 N, .string S, .slice a3 l3 c3, .slice a4 l4 c4] 39)).alloc (Obj.cells #[.int .i64 K, .int .i64 N, .string S, .slice b3 l3 d3, .slice b4 l4 d4] 39) := ⟨_, rfl⟩
  have hA : Below w.heap.size w W := by rw [hW]; exact ((Below.refl _ _).alloc (Nat.le_refl _) _).alloc (by simp) _
  have n1 : W.heap[w.heap.size]? = some (Obj.cells #[.int .i64 K, .int .i64 N, .string S, .slice a3 l3 c3, .slice a4 l4 c4] 39 (0, 0)) := by rw [hW, Below.heap_alloc _ _ _ (by simp)]; exact heap_alloc_new w _
  have n2 : W.heap[w.heap.size + 1]? = some (Obj.cells #[.int .i64 K, .int .i64 N, .string S, .slice b3 l3 d3, .slice b4 l4 d4] 39 (0, 0)) := by rw [hW]; have := heap_alloc_new (w.alloc (Obj.cells #[.int .i64 K, .int .i64 N, .string S, .slice a3 l3 c3, .slice a4 l4 c4] 39)) (Obj.cells #[.int .i64 K, .int .i64 N, .string S, .slice b3 l3 d3, .slice b4 l4 d4] 39); simpa using this
  have hC := HE _ _ _ W (h1.later (ExR.lasts d) hA) (h1'.later (ExR.lasts d) hA) w4
  have H2 : Hid (∀ V : World, Below w.heap.size w V → _) := fun V hV => HC _ _ _ V (h2.later (ClR.lasts (ExR.lasts d)) hV) (h2'.later (ClR.lasts (ExR.lasts d)) hV) w5
  rw [hW] at hC
  have HW : Hid (W = _) := hW
  have HN : Hid (_ ∧ _) := ⟨n1, n2⟩
  clear hW n1 n2 h1 h2 h1' h2' w4 w5 HE HC hK hN hS e3 e4
  go_enter Tryz.func45, Tryz.ntmps45
  go_wp2_with fail
  refine hC.mono ?_
  clear hC
  rintro e w1 ⟨rfl, hb1⟩
  rw [← HW.out] at hb1
  have hb2 : Below w.heap.size w w1 := hA.trans (hb1.mono hA.size)
  obtain ⟨n1, n2⟩ := HN.out
  have f4 : w1.cell? ⟨w.heap.size, 4, none⟩ = some (.slice a4 l4 c4) := by rw [cell_of_row w1 _ 4 _ _ _ ((hb1.block _ (lt_row n1)).trans n1)]; rfl
  have g4 : w1.cell? ⟨w.heap.size + 1, 4, none⟩ = some (.slice b4 l4 d4) := by rw [cell_of_row w1 _ 4 _ _ _ ((hb1.block _ (lt_row n2)).trans n2)]; rfl
  have hD := H2.out w1 hb2
  clear n1 n2 hb1 H2 HN
  go_wp2_with fail
  refine hD.mono ?_
  clear hD
  rintro e w2 ⟨rfl, hb3⟩
  have hb4 : Below w.heap.size w w2 := hb2.trans (hb3.mono hb2.size)
  clear hb3 hb2 hA
  go_wp2
  go_ret
  exact ⟨rfl, hb4⟩

theorem eqExpr_any : ∀ d, EqEl 45 (ExR d) (WfX d) := by
  intro d
  induction d with
  | zero => intro vs1 vs2 x w h; exact h.elim
  | succ d ih => exact eqExpr_of d (eqExprS_of _ _ (ExR.lasts d) (ExR.shape d) ih) (eqClauseS_of _ _ (ClR.lasts (ExR.lasts d)) (ClR.shape (ExR.shape d)) (eqClause_of _ _ (ExR.lasts d) (ExR.shape d) ih))

end Go.Proofs.YtgeedoeaepcmcaaGreatDoor

/- Expressions as they are read, with the room of their lists. -/
namespace Go.Proofs.YtgeedoeaepcmcaaGreatDoor
open Go.RowKit
set_option linter.unusedVariables false

/-- A slice has room for what it holds. -/
def CapV (v : Value) : Prop := ∀ a n c, v = .slice a n c → n ≤ c

def ExC : (d : Nat) → World → List Value → Ex d → Prop
  | 0, _, _, _ => False
  | d + 1, w, vs, e => ∃ ve vc, vs = [.int .i64 e.K, .int .i64 e.N, .string e.S, ve, vc] ∧ (RowOf 5 (ExC d) w ve e.E ∧ CapV ve) ∧ (RowOf 10 (ClR (ExC d)) w vc e.C ∧ CapV vc)

theorem ExC.lasts : ∀ d, Lasts (ExC d) := by
  intro d
  induction d with
  | zero => intro w w' vs x h _; exact h.elim
  | succ d ih =>
    rintro w w' vs x ⟨ve, vc, rfl, ⟨h1, k1⟩, h2, k2⟩ hb
    exact ⟨ve, vc, rfl, ⟨h1.later ih hb, k1⟩, h2.later (ClR.lasts ih) hb, k2⟩
theorem OwnRow.cap {α : Type} {k : Nat} {T : TypeId} {O : World → List Value → α → List Nat → Prop} {w : World} {v : Value} {xs : List α} {fp : List Nat} (h : OwnRow k T O w v xs fp) : CapV v := by
  intro a n c e
  rcases h with ⟨rfl, _, a', c', e'⟩ | ⟨g, c', cur, fps, e', _, ⟨_, h3⟩, _⟩
  · rw [e'] at e
    simp only [Value.slice.injEq] at e
    obtain ⟨_, rfl, rfl⟩ := e
    exact Nat.zero_le _
  · rw [e'] at e
    simp only [Value.slice.injEq] at e
    obtain ⟨_, rfl, rfl⟩ := e
    exact h3
theorem ExO.readc : ∀ d, Reads (ExO d) (ExC d) := by
  intro d
  induction d with
  | zero => intro w vs x f h; exact h.elim
  | succ d ih =>
    rintro w vs x fp ⟨ve, vc, f, g, rfl, rfl, h1, h2⟩
    exact ⟨ve, vc, rfl, ⟨h1.rd ih, h1.cap⟩, h2.rd (ClO.reads ih), h2.cap⟩
theorem RowOf.imp {α : Type} {k : Nat} {R R' : World → List Value → α → Prop} (hR : ∀ w vs x, R w vs x → R' w vs x) {w : World} {v : Value} {xs : List α} (h : RowOf k R w v xs) : RowOf k R' w v xs := by
  obtain ⟨a, c, rfl, h1⟩ := h
  refine ⟨a, c, rfl, fun i x hx => ?_⟩
  obtain ⟨b, o, vs, h2, h3, h4, h5⟩ := h1 i x hx
  exact ⟨b, o, vs, h2, h3, h4, hR _ _ _ h5⟩
theorem ExC.read : ∀ d w vs x, ExC d w vs x → ExR d w vs x := by
  intro d
  induction d with
  | zero => intro w vs x h; exact h.elim
  | succ d ih =>
    rintro w vs x ⟨ve, vc, rfl, ⟨h1, _⟩, h2, _⟩
    refine ⟨ve, vc, rfl, h1.imp ih, h2.imp ?_⟩
    rintro w vs c ⟨p, x, rfl, q1, q2⟩
    exact ⟨p, x, rfl, ih _ _ _ q1, ih _ _ _ q2⟩
theorem ExC.shape (d : Nat) (w : World) (vs : List Value) (x : Ex d) (h : ExC d w vs x) : ShExpr vs := ExR.shape d w vs x (ExC.read d w vs x h)

end Go.Proofs.YtgeedoeaepcmcaaGreatDoor
