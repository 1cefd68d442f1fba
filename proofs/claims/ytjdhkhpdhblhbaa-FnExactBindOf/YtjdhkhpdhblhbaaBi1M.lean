/- Binds as data: a name and a term; the law's own measure, copy and comparison of them. -/
import Derived.Test.YtjdhkhpdhblhbaaRowBindM
import Derived.Test.YtjdhkhpdhblhbaaXmM
import Derived.Test.YtjdhkhpdhblhbaaTmM
namespace Go.Proofs.Ytjdhkhpdhblhbaa
open Go.RowKit
set_option linter.unusedVariables false

def Bn (d : Nat) : Type := ByteArray × Tm (d + 1)
def Bn.nm {d : Nat} (b : Bn d) : ByteArray := b.1
def Bn.t {d : Nat} (b : Bn d) : Tm (d + 1) := b.2

def BnR (d : Nat) (w : World) (vs : List Value) (b : Bn d) : Prop := ∃ lv, vs = [.string b.nm, .int .i64 b.t.K, .int .i64 b.t.N, .string b.t.S, lv] ∧ RdL d w lv b.t.L
def BnO (d : Nat) (w : World) (vs : List Value) (b : Bn d) (fp : List Nat) : Prop := ∃ lv, vs = [.string b.nm, .int .i64 b.t.K, .int .i64 b.t.N, .string b.t.S, lv] ∧ OwnL d w lv b.t.L fp
def WfB (d : Nat) (b : Bn d) : Prop := b.nm.size ≤ maxLen ∧ I64 b.t.K ∧ I64 b.t.N ∧ b.t.S.size ≤ maxLen ∧ WfL d b.t.L
def szB (d : Nat) (b : Bn d) : Nat := b.nm.size + (b.t.S.size + szL d b.t.L)

theorem BnR.lasts (d : Nat) : Lasts (BnR d) := by
  rintro w w' vs b ⟨lv, rfl, h⟩ hb
  exact ⟨lv, rfl, h.later hb⟩
theorem BnO.lasts (d : Nat) : LastsO (BnO d) := by
  rintro w w' vs b fp ⟨lv, rfl, h⟩ hb
  exact ⟨lv, rfl, h.frame hb⟩
theorem BnO.reads (d : Nat) : Reads (BnO d) (BnR d) := by
  rintro w vs b fp ⟨lv, rfl, h⟩
  exact ⟨lv, rfl, h.rd⟩
theorem BnR.shape (d : Nat) : ∀ w vs b, BnR d w vs b → ShBind vs := by
  rintro w vs b ⟨lv, rfl, h⟩
  obtain ⟨a, l, c, rfl⟩ := h.shape
  exact ⟨_, _, _, _, _, _, _, rfl⟩
theorem BnO.shape (d : Nat) : ∀ w vs b fp, BnO d w vs b fp → ShBind vs := fun w vs b fp h => BnR.shape d w vs b (BnO.reads d w vs b fp h)

set_option maxHeartbeats 1000000 in
theorem szBind_any (d : Nat) : SzEl 40 (BnR d) (WfB d) (szB d) := by
  rintro vs x left w ⟨lv, rfl, h1⟩ ⟨w1, _, _, w4, w5⟩ h0 hm
  obtain ⟨a, l, c, rfl⟩ := h1.shape
  have hs : x.nm.size ≤ 9223372036854775807 := by unfold maxLen at w1; omega
  obtain ⟨W, hW⟩ : ∃ W, W = w.alloc (Obj.cells #[.string x.nm, .int .i64 x.t.K, .int .i64 x.t.N, .string x.t.S, .slice a l c] 61) := ⟨_, rfl⟩
  have hA : Below w.heap.size w W := by rw [hW]; exact (Below.refl _ _).alloc (Nat.le_refl _) _
  obtain ⟨A, hA0⟩ : ∃ A, x.t.S.size + szL d x.t.L = A := ⟨_, rfl⟩
  have e0 : szB d x = x.nm.size + A := by rw [← hA0]; rfl
  rw [e0]
  have HEE := szTerm_of d (szTermS_any d) x.t.K x.t.N x.t.S _ x.t.L (left - x.nm.size) W (h1.later hA) w5 w4
  rw [hA0] at HEE
  obtain ⟨S, hS⟩ : ∃ S, x.nm = S := ⟨_, rfl⟩
  obtain ⟨K, hK⟩ : ∃ K, x.t.K = K := ⟨_, rfl⟩
  obtain ⟨N, hN⟩ : ∃ N, x.t.N = N := ⟨_, rfl⟩
  obtain ⟨T, hT⟩ : ∃ T, x.t.S = T := ⟨_, rfl⟩
  rw [hS, hK, hN, hT] at hW
  rw [hS, hK, hN, hT] at HEE
  rw [hS] at hs
  rw [hS, hK, hN, hT]
  clear e0 hA0 w1 w4 w5 h1 hS hK hN hT
  by_cases hlt : left < S.size
  · have HF : Hid ((-1 : Int) = lft left (S.size + A)) := by unfold lft; rw [if_neg (by omega)]; exact rfl
    rw [hW] at hA
    clear HEE
    go_enter Try.func40, Try.ntmps40
    go_wp2
    go_ret
    exact ⟨tret1 HF.out, hA⟩
  · have hC := HEE (by omega) (by omega)
    have L0 : lft (left - S.size) A = lft left (S.size + A) := by
      unfold lft
      by_cases h : (A : Int) ≤ left - S.size
      · rw [if_pos h, if_pos (by omega)]; omega
      · rw [if_neg h, if_neg (by omega)]
    rw [L0] at hC
    obtain ⟨y, hy⟩ : ∃ y, lft left (S.size + A) = y := ⟨_, rfl⟩
    have HYN : Hid (y < 0 → y = -1) := fun h => by
      rw [← hy] at h ⊢
      unfold lft at h ⊢
      split at h
      · omega
      · rename_i h4; rw [if_neg h4]
    rw [hy] at hC
    rw [hy]
    rw [hW] at hC
    have HW : Hid (W = _) := hW
    clear hW HEE L0 hy
    by_cases hneg : y < 0
    · have e1 := HYN.out hneg
      subst e1
      go_enter Try.func40, Try.ntmps40
      go_wp2_with fail
      refine hC.mono ?_
      clear hC
      rintro e w1 ⟨rfl, hb1⟩
      rw [← HW.out] at hb1
      have hb2 : Below w.heap.size w w1 := hA.trans (hb1.mono hA.size)
      clear hb1
      go_wp2
      go_ret
      exact ⟨rfl, hb2⟩
    · go_enter Try.func40, Try.ntmps40
      go_wp2_with fail
      refine hC.mono ?_
      clear hC
      rintro e w1 ⟨rfl, hb1⟩
      rw [← HW.out] at hb1
      have hb2 : Below w.heap.size w w1 := hA.trans (hb1.mono hA.size)
      clear hb1
      go_wp2
      go_ret
      exact ⟨rfl, hb2⟩

theorem szBindS_any (d : Nat) : SzLs 20 5 (BnR d) (WfB d) (szB d) := szBindS_of _ _ _ (BnR.lasts d) (BnR.shape d) (szBind_any d)

set_option maxHeartbeats 1000000 in
theorem toBind_any (d : Nat) : ToEl 42 (BnR d) (BnO d) (WfB d) (szB d) := by
  rintro vs x w ⟨lv, rfl, h1⟩ ⟨_, _, _, _, w5⟩ hz
  have hz' : x.nm.size + (x.t.S.size + szL d x.t.L) ≤ 1048576 := hz
  obtain ⟨a, l, c, rfl⟩ := h1.shape
  obtain ⟨S, hS⟩ : ∃ S, x.nm = S := ⟨_, rfl⟩
  obtain ⟨K, hK⟩ : ∃ K, x.t.K = K := ⟨_, rfl⟩
  obtain ⟨N, hN⟩ : ∃ N, x.t.N = N := ⟨_, rfl⟩
  obtain ⟨T, hT⟩ : ∃ T, x.t.S = T := ⟨_, rfl⟩
  have HX : Hid (x.nm = S ∧ x.t.K = K ∧ x.t.N = N ∧ x.t.S = T) := ⟨hS, hK, hN, hT⟩
  rw [hS, hK, hN, hT]
  obtain ⟨W, hW⟩ : ∃ W, W = ((w.alloc (Obj.cells #[.string S, .int .i64 K, .int .i64 N, .string T, .slice a l c] 61)).alloc (.cells #[.string ⟨#[]⟩, .int .i64 0, .int .i64 0, .string ⟨#[]⟩, .slice none 0 0] 63)).alloc (.cells #[.string S, .int .i64 0, .int .i64 0, .string ⟨#[]⟩, .slice none 0 0] 63) := ⟨_, rfl⟩
  obtain ⟨nA, nB, nC⟩ := heap_three w (Obj.cells #[.string S, .int .i64 K, .int .i64 N, .string T, .slice a l c] 61) (.cells #[.string ⟨#[]⟩, .int .i64 0, .int .i64 0, .string ⟨#[]⟩, .slice none 0 0] 63) (.cells #[.string S, .int .i64 0, .int .i64 0, .string ⟨#[]⟩, .slice none 0 0] 63)
  rw [← hW] at nA nB nC
  have hWb : Below w.heap.size w W := by rw [hW]; exact (((Below.refl _ _).alloc (Nat.le_refl _) _).alloc (by simp) _).alloc (by simp; omega) _
  have hWs : W.heap.size = w.heap.size + 1 + 1 + 1 := by rw [hW]; simp
  have hC := toTerm_of d (toTermS_any d) K N T _ x.t.L W (h1.later hWb) w5 (by omega)
  rw [hW] at hC
  have HW : Hid (W = _) := hW
  clear hW h1 w5 hz hz' hS hK hN hT nA
  go_enter Try.func42, Try.ntmps42
  go_wp2_with fail
  refine hC.mono ?_
  clear hC
  rintro e w2 ⟨a2, l2, c2, fp, rfl, hown, hfr, hb⟩
  rw [← HW.out] at hfr hb
  have nB2 := (hb.block _ (lt_row nB)).trans nB
  have nC2 := (hb.block _ (lt_row nC)).trans nC
  have hz2 := hb.size
  have HFIN : Hid (∀ Z, Kept (w.heap.size + 1) (w.heap.size + 1 + 1 + 1) w2 Z → BnO d Z [.string S, .int .i64 K, .int .i64 N, .string T, .slice a2 l2 c2] x fp ∧ Fresh w.heap.size Z fp ∧ Below w.heap.size w Z) := fun Z hZ => by
    have hzZ := hZ.size
    obtain ⟨rfl, rfl, rfl, rfl⟩ := HX.out
    refine ⟨⟨_, rfl, hown.frame fun g hg => ?_⟩, ⟨hfr.1, fun g hg => ?_⟩, ?_⟩
    · exact hZ.block g (hfr.2 g hg).2 (.inr (by have := (hfr.2 g hg).1; omega))
    · have := hfr.2 g hg; omega
    · have hbw2 : Below w.heap.size w w2 := hWb.trans (hb.mono hWb.size)
      exact hbw2.trans (hZ.below (by omega) hbw2.size)
  have bcell : ∀ j u, (#[.string ⟨#[]⟩, .int .i64 0, .int .i64 0, .string ⟨#[]⟩, .slice none 0 0] : Array Value)[j]? = some u → w2.cell? ⟨w.heap.size + 1, j, none⟩ = some u := fun j u hu => by rw [cell_of_row w2 _ _ _ _ _ nB2]; exact hu
  have ccell : ∀ j u, (#[.string S, .int .i64 0, .int .i64 0, .string ⟨#[]⟩, .slice none 0 0] : Array Value)[j]? = some u → w2.cell? ⟨w.heap.size + 1 + 1, j, none⟩ = some u := fun j u hu => by rw [cell_of_row w2 _ _ _ _ _ nC2]; exact hu
  have hfB : ∀ j, w2.frozen? ⟨w.heap.size + 1, j, none⟩ = false := fun j => frozen_of_row w2 _ _ _ _ nB2
  have hfC : ∀ j, w2.frozen? ⟨w.heap.size + 1 + 1, j, none⟩ = false := fun j => frozen_of_row w2 _ _ _ _ nC2
  have b0 := bcell 0 _ rfl
  have y0 := hfB 0
  have g0 := ccell 0 _ rfl
  have z0 := hfC 0
  have b1 := bcell 1 _ rfl
  have y1 := hfB 1
  have g1 := ccell 1 _ rfl
  have z1 := hfC 1
  have b2 := bcell 2 _ rfl
  have y2 := hfB 2
  have g2 := ccell 2 _ rfl
  have z2 := hfC 2
  have b3 := bcell 3 _ rfl
  have y3 := hfB 3
  have g3 := ccell 3 _ rfl
  have z3 := hfC 3
  have b4 := bcell 4 _ rfl
  have y4 := hfB 4
  have g4 := ccell 4 _ rfl
  have z4 := hfC 4
  clear nB2 nC2 nB nC hown hfr hb bcell ccell hfB hfC hWb
  go_wp2_with fail
  refine bodyPost_ret (v := .agg #[.string S, .int .i64 K, .int .i64 N, .string T, .slice a2 l2 c2]) (by first | (simp [results, Try.results42, go_sem, b0, b1, b2, b3, b4]; done) | (simp [results, Try.results42, go_sem, b0, b1, b2, b3, b4]; rfl)) rfl ⟨[.string S, .int .i64 K, .int .i64 N, .string T, .slice a2 l2 c2], fp, rfl, HFIN.out _ ?_⟩
  repeat (first | with_reducible exact Kept.refl _ _ _ | with_reducible refine Kept.drew ?_ | (with_reducible refine Kept.set ?_ ?_; omega))

theorem toBindS_any (d : Nat) : ToLs 22 5 63 (BnR d) (BnO d) (WfB d) (szB d) := toBindS_of _ _ _ _ (BnR.lasts d) (BnO.lasts d) (BnR.shape d) (BnO.shape d) (toBind_any d)

set_option maxHeartbeats 1000000 in
theorem eqBind_any (d : Nat) : EqEl 45 (BnR d) (WfB d) := by
  rintro vs1 vs2 x w ⟨lv, rfl, h1⟩ ⟨lv', rfl, h2⟩ ⟨_, _, _, _, w5⟩
  obtain ⟨a, l, c, rfl⟩ := h1.shape
  obtain ⟨b, m, e, rfl⟩ := h2.shape
  obtain ⟨S, hS⟩ : ∃ S, x.nm = S := ⟨_, rfl⟩
  obtain ⟨K, hK⟩ : ∃ K, x.t.K = K := ⟨_, rfl⟩
  obtain ⟨N, hN⟩ : ∃ N, x.t.N = N := ⟨_, rfl⟩
  obtain ⟨T, hT⟩ : ∃ T, x.t.S = T := ⟨_, rfl⟩
  rw [hS, hK, hN, hT]
  have hA : Below w.heap.size w ((w.alloc (.cells #[.string S, .int .i64 K, .int .i64 N, .string T, .slice a l c] 63)).alloc (.cells #[.string S, .int .i64 K, .int .i64 N, .string T, .slice b m e] 63)) := ((Below.refl _ _).alloc (Nat.le_refl _) _).alloc (by simp) _
  have hC := eqTerm_of d (eqTermS_any d) K N T _ _ x.t.L _ (h1.later hA) (h2.later hA) w5
  clear h1 h2 w5 hS hK hN hT
  go_enter Try.func45, Try.ntmps45
  go_wp2_with fail
  refine hC.mono ?_
  clear hC
  rintro e w1 ⟨rfl, hb⟩
  have hb2 : Below w.heap.size w w1 := hA.trans (hb.mono (by simp; omega))
  clear hA hb
  go_wp2
  go_ret
  exact ⟨rfl, hb2⟩

theorem eqBindS_any (d : Nat) : EqLs 24 5 (BnR d) (WfB d) := eqBindS_of _ _ (BnR.lasts d) (BnR.shape d) (eqBind_any d)

end Go.Proofs.Ytjdhkhpdhblhbaa
