/- Functions and modules as data; the law's own measure of them. -/
import Derived.Test.YtpokheklplcamaaRowFun
import Derived.Test.YtpokheklplcamaaXm3
import Derived.Test.YtpokheklplcamaaXk3
namespace Go.Proofs.Ytpokheklplcamaa
open Go.RowKit
set_option linter.unusedVariables false

/-- One cell that is a text. -/
def StR (w : World) (vs : List Value) (s : ByteArray) : Prop := vs = [.string s]
def StO (w : World) (vs : List Value) (s : ByteArray) (fp : List Nat) : Prop := vs = [.string s] ∧ fp = []
def StP (s : ByteArray) : Prop := s.size ≤ maxLen
theorem StR.lasts : Lasts StR := fun _ _ _ _ h _ => h
theorem StO.lasts : LastsO StO := fun _ _ _ _ _ h _ => h
theorem StO.reads : Reads StO StR := fun _ _ _ _ h => h.1

theorem row_tell {w : World} {v : Value} {l : List ByteArray} (h : RowOf 1 StR w v l) : TellS w v l := by
  obtain ⟨a, c, rfl, h1⟩ := h
  refine ⟨a, c, rfl, fun i s hs => ?_⟩
  obtain ⟨b, o, vs, h2, _, h4, h5⟩ := h1 i s hs
  have h5' : vs = [.string s] := h5
  subst h5'
  exact ⟨b, o, h2, by have := h4 0 _ rfl; simpa using this⟩

/-- A function: its name, its parameters, and what it comes to. -/
def Fu (d : Nat) : Type := ByteArray × List ByteArray × Ex d
def Fu.nm {d : Nat} (f : Fu d) : ByteArray := f.1
def Fu.ps {d : Nat} (f : Fu d) : List ByteArray := f.2.1
def Fu.x {d : Nat} (f : Fu d) : Ex d := f.2.2

def FuR (d : Nat) (w : World) (vs : List Value) (f : Fu d) : Prop := ∃ vp vx, vs = .string f.nm :: vp :: vx ∧ RowOf 1 StR w vp f.ps ∧ ExR d w vx f.x
def FuO (d : Nat) (w : World) (vs : List Value) (f : Fu d) (fp : List Nat) : Prop := ∃ vp vx g h, vs = .string f.nm :: vp :: vx ∧ fp = g ++ h ∧ OwnRow 1 9 StO w vp f.ps g ∧ ExO d w vx f.x h
def WfF (d : Nat) (f : Fu d) : Prop := f.nm.size ≤ maxLen ∧ WfRow StP f.ps ∧ WfX d f.x
def szF (d : Nat) (f : Fu d) : Nat := f.nm.size + szRow ByteArray.size f.ps + szX d f.x

theorem FuR.lasts (d : Nat) : Lasts (FuR d) := by
  rintro w w' vs f ⟨vp, vx, rfl, h1, h2⟩ hb
  exact ⟨vp, vx, rfl, h1.later StR.lasts hb, ExR.lasts d _ _ _ _ h2 hb⟩
theorem FuO.lasts (d : Nat) : LastsO (FuO d) := by
  rintro w w' vs f fp ⟨vp, vx, g, h, rfl, rfl, h1, h2⟩ hb
  exact ⟨vp, vx, g, h, rfl, rfl, h1.frame StO.lasts fun j hj => hb j (List.mem_append_left _ hj), ExO.lasts d _ _ _ _ _ h2 fun j hj => hb j (List.mem_append_right _ hj)⟩
theorem FuO.reads (d : Nat) : Reads (FuO d) (FuR d) := by
  rintro w vs f fp ⟨vp, vx, g, h, rfl, rfl, h1, h2⟩
  exact ⟨vp, vx, rfl, h1.rd StO.reads, ExO.reads d _ _ _ _ h2⟩
theorem FuR.shape (d : Nat) : ∀ w vs f, FuR d w vs f → ShFun vs := by
  rintro w vs f ⟨vp, vx, rfl, h1, h2⟩
  obtain ⟨a, c, rfl⟩ := h1.slice
  obtain ⟨_, _, _, _, _, _, _, _, _, rfl⟩ := ExR.shape d _ _ _ h2
  exact ⟨_, _, _, _, _, _, _, _, _, _, _, _, _, rfl⟩
theorem FuO.shape (d : Nat) : ∀ w vs f fp, FuO d w vs f fp → ShFun vs := fun w vs f fp h => FuR.shape d w vs f (FuO.reads d w vs f fp h)

set_option maxHeartbeats 1000000 in
theorem szStrs_any : SzLs 105 1 StR StP ByteArray.size := by
  intro v xs left w hr hw h0 h1
  obtain ⟨a, c, rfl, hel⟩ := row_tell hr
  have HE : Hid (∀ (i : Nat) (s : ByteArray), xs[i]? = some s → ∃ b o, a = some ⟨b, o, none⟩ ∧ w.cell? ⟨b, o + i, none⟩ = some (.string s)) := hel
  have HW : Hid (WfRow StP xs) := hw
  have hm : xs.length ≤ 9223372036854775807 := hw.1
  clear hel hw hr
  obtain ⟨len, hlen⟩ : ∃ len, xs.length = len := ⟨_, rfl⟩
  have HLN : Hid (xs.length = len) := hlen
  rw [hlen] at hm ⊢
  clear hlen
  by_cases hlt : left < len
  · have HF : Hid ((-1 : Int) = lft left (szRow ByteArray.size xs)) := by show _ = _; have := sumP_all ByteArray.size xs; rw [HLN.out] at this; unfold lft; rw [if_neg (by omega)]
    go_enter Try.func105, Try.ntmps105
    go_wp2
    go_ret
    exact ⟨tret1 HF.out, Below.refl _ _⟩
  · go_enter Try.func105, Try.ntmps105
    go_wp2_with fail
    go_loopw [1, 5] (fun x i wr => ∃ k : Nat, k ≤ len ∧ i = .int .i64 k ∧ x = .int .i64 (left - len - sumP ByteArray.size xs k) ∧ 0 ≤ left - (len : Int) - sumP ByteArray.size xs k ∧ Below w.heap.size w wr) (fun _ i _ => len - (intOf i).toNat)
    case atStart => exact ⟨0, Nat.zero_le _, rfl, by simp [sumP], by simp [sumP]; omega, Below.refl _ _⟩
    case round =>
      obtain ⟨k, hk, rfl, rfl, hx0, hb⟩ := hrel
      obtain ⟨x, hx⟩ : ∃ x, left - (len : Int) - sumP ByteArray.size xs k = x := ⟨_, rfl⟩
      have HX : Hid (left - (len : Int) - sumP ByteArray.size xs k = x) := hx
      rw [hx] at hx0 ⊢
      have hx1 : x ≤ 1048576 := by omega
      clear hx
      by_cases hkl : k < len
      · obtain ⟨t, ht⟩ : ∃ t, xs[k]? = some t := ⟨_, List.getElem?_eq_getElem (by rw [HLN.out]; exact hkl)⟩
        obtain ⟨b, o, rfl, f0⟩ := HE.out k t ht
        have f1 := cell_later hb f0
        have hpt : t.size ≤ 9223372036854775807 := Nat.le_trans (HW.out.2 t (List.mem_of_getElem? ht)) (by decide)
        have hstep := sumP_succ ByteArray.size xs k t ht
        have hkl' : (k : Int) < (len : Int) := by omega
        clear f0
        by_cases hneg : x < t.size
        · have HF : Hid ((-1 : Int) = lft left (szRow ByteArray.size xs)) := by
            have h1 := sumP_all ByteArray.size xs
            have h2 := sumP_le ByteArray.size xs (k + 1)
            have h3 := HX.out
            have h5 := HLN.out
            have h6 : szRow ByteArray.size xs = xs.length + (xs.map ByteArray.size).sum := rfl
            show _ = _
            unfold lft; rw [if_neg (by omega)]
          clear hstep HX ht
          go_wp2
          go_ret
          exact ⟨tret1 HF.out, hb⟩
        · have HY : Hid (x - (t.size : Int) = left - (len : Int) - sumP ByteArray.size xs (k + 1) ∧ 0 ≤ left - (len : Int) - sumP ByteArray.size xs (k + 1)) := by
            have h3 := HX.out
            show _ ∧ _; omega
          clear hstep HX ht
          go_wp2
          go_roundw
          case rel => exact ⟨k + 1, by omega, by go_num, by rw [← HY.out.1], HY.out.2, hb⟩
          case measure => simp [intOf]; omega
      · have HF : Hid (x = lft left (szRow ByteArray.size xs)) := by
          have h1 := sumP_all ByteArray.size xs
          have h3 := HX.out
          have h5 := HLN.out
          have hk' : k = xs.length := by omega
          rw [hk'] at h3
          unfold lft; rw [if_pos (by omega)]; show _ = _; omega
        clear HX
        go_wp2
        go_ret
        exact ⟨tret1 HF.out, hb⟩

set_option maxHeartbeats 1000000 in
theorem szFun_any (d : Nat) : SzEl 83 (FuR d) (WfF d) (szF d) := by
  rintro vs x left w ⟨vp, vx, rfl, h1, h2⟩ ⟨w1, w2, w3⟩ h0 hm
  obtain ⟨a1, c1, rfl⟩ := h1.slice
  obtain ⟨l1, e1⟩ : ∃ l, x.ps.length = l := ⟨_, rfl⟩
  rw [e1] at h1 ⊢
  obtain ⟨i2, i3, s4, a5, l5, c5, a6, l6, c6, rfl⟩ := ExR.shape d _ _ _ h2
  have hs : x.nm.size ≤ 9223372036854775807 := by unfold maxLen at w1; omega
  obtain ⟨W, hW⟩ : ∃ W, W = w.alloc (Obj.cells #[.string x.nm, .slice a1 l1 c1, .int .i64 i2, .int .i64 i3, .string s4, .slice a5 l5 c5, .slice a6 l6 c6] 142) := ⟨_, rfl⟩
  have hA : Below w.heap.size w W := by rw [hW]; exact (Below.refl _ _).alloc (Nat.le_refl _) _
  have hWc : W.heap[w.heap.size]? = some (Obj.cells #[.string x.nm, .slice a1 l1 c1, .int .i64 i2, .int .i64 i3, .string s4, .slice a5 l5 c5, .slice a6 l6 c6] 142 (0, 0)) := by rw [hW]; exact heap_alloc_new w _
  obtain ⟨A, hA0⟩ : ∃ A, szRow ByteArray.size x.ps = A := ⟨_, rfl⟩
  obtain ⟨B, hB0⟩ : ∃ B, szX d x.x = B := ⟨_, rfl⟩
  have e0 : szF d x = x.nm.size + A + B := by rw [← hA0, ← hB0]; rfl
  rw [e0]
  have HEE := szStrs_any _ _ (left - x.nm.size) W (h1.later StR.lasts hA) w2
  have HCC : Hid (∀ V : World, Below W.heap.size W V → ∀ l : Int, 0 ≤ l → l ≤ 1048576 → _) := fun V hV l p1 p2 => szExpr_any d _ x.x l V (ExR.lasts d _ _ _ _ (ExR.lasts d _ _ _ _ h2 hA) hV) w3 p1 p2
  rw [hA0] at HEE
  rw [hB0] at HCC
  obtain ⟨S, hS⟩ : ∃ S, x.nm = S := ⟨_, rfl⟩
  rw [hS] at hW hWc
  rw [hS] at HEE hs
  rw [hS]
  clear e0 hA0 hB0 w1 w2 w3 h1 h2 e1 hS
  by_cases hlt : left < S.size
  · have HF : Hid ((-1 : Int) = lft left (S.size + A + B)) := by unfold lft; rw [if_neg (by omega)]; exact rfl
    rw [hW] at hA
    clear HEE hWc HCC
    go_enter Try.func83, Try.ntmps83
    go_wp2
    go_ret
    exact ⟨tret1 HF.out, hA⟩
  · have hC := HEE (by omega) (by omega)
    obtain ⟨L1, L2⟩ := lft_two (left - S.size) A B (by omega)
    have L0 : lft (left - S.size) (A + B) = lft left (S.size + A + B) := by
      unfold lft
      by_cases h : ((A + B : Nat) : Int) ≤ left - S.size
      · rw [if_pos h, if_pos (by omega)]; omega
      · rw [if_neg h, if_neg (by omega)]
    rw [L0] at L1 L2
    rw [hW] at hC
    have HW : Hid (W = _) := hW
    have HZ : Hid (w.heap.size < W.heap.size ∧ Below w.heap.size w W) := ⟨lt_row hWc, hA⟩
    have HWC : Hid _ := hWc
    clear hW hA hWc HEE L0
    obtain ⟨y, hy⟩ : ∃ y, lft (left - S.size) A = y := ⟨_, rfl⟩
    rw [hy] at hC L1 L2
    clear hy
    by_cases hneg : y < 0
    · have HF : Hid (lft left (S.size + A + B) = -1) := L1 hneg
      clear L1 L2
      go_enter Try.func83, Try.ntmps83
      go_wp2_with fail
      refine hC.mono ?_
      clear hC
      rintro e w1 ⟨rfl, hb1⟩
      rw [← HW.out] at hb1
      have hb2 : Below w.heap.size w w1 := HZ.out.2.trans (hb1.mono HZ.out.2.size)
      clear hb1
      go_wp2
      go_ret
      exact ⟨tret1 HF.out.symm, hb2⟩
    · obtain ⟨E1, E2, E3⟩ := L2 hneg
      clear L1 L2
      obtain ⟨z, hz⟩ : ∃ z, lft y B = z := ⟨_, rfl⟩
      rw [hz] at E1
      have HE : Hid (z = lft left (S.size + A + B)) := E1
      have HZN : Hid (z < 0 → z = -1) := fun h => by
        rw [← hz] at h ⊢
        unfold lft at h ⊢
        split at h
        · omega
        · rename_i h4; rw [if_neg h4]
      have hm2 : y ≤ 1048576 := by omega
      go_enter Try.func83, Try.ntmps83
      go_wp2_with fail
      refine hC.mono ?_
      clear hC
      rintro e w1 ⟨rfl, hb1⟩
      rw [← HW.out] at hb1
      have hD := HCC.out w1 hb1 y E2 hm2
      rw [hz] at hD
      have hh := (hb1.block _ HZ.out.1).trans HWC.out
      have f2 : w1.cell? ⟨w.heap.size, 2, none⟩ = some (.int .i64 i2) := by rw [cell_of_row w1 _ 2 _ _ _ hh]; rfl
      have f3 : w1.cell? ⟨w.heap.size, 3, none⟩ = some (.int .i64 i3) := by rw [cell_of_row w1 _ 3 _ _ _ hh]; rfl
      have f4 : w1.cell? ⟨w.heap.size, 4, none⟩ = some (.string s4) := by rw [cell_of_row w1 _ 4 _ _ _ hh]; rfl
      have f5 : w1.cell? ⟨w.heap.size, 5, none⟩ = some (.slice a5 l5 c5) := by rw [cell_of_row w1 _ 5 _ _ _ hh]; rfl
      have f6 : w1.cell? ⟨w.heap.size, 6, none⟩ = some (.slice a6 l6 c6) := by rw [cell_of_row w1 _ 6 _ _ _ hh]; rfl
      have hb2 : Below w.heap.size w w1 := HZ.out.2.trans (hb1.mono HZ.out.2.size)
      clear hb1 hh hz E1 HCC
      go_wp2_with fail
      refine hD.mono ?_
      clear hD f2 f3 f4 f5 f6
      rintro e w2 ⟨rfl, hb3⟩
      have hb4 : Below w.heap.size w w2 := hb2.trans (hb3.mono hb2.size)
      clear hb3 hb2
      by_cases hn2 : z < 0
      · have e1 := HZN.out hn2
        subst e1
        go_wp2
        go_ret
        exact ⟨tret1 HE.out, hb4⟩
      · go_wp2
        go_ret
        exact ⟨tret1 HE.out, hb4⟩

/-- A module: its functions. -/
def szM (d : Nat) (m : List (Fu d)) : Nat := szRow (szF d) m

set_option maxHeartbeats 1000000 in
theorem szModule_any (d : Nat) (v : Value) (m : List (Fu d)) (left : Int) (w : World) (hr : RowOf 7 (FuR d) w v m) (hw : WfRow (WfF d) m) (h0 : 0 ≤ left) (h1 : left ≤ 1048576) :
    Calls Try.prog 28 #[.agg #[v], .int .i64 left] w fun e w' => e = .returned (.int .i64 (lft left (szM d m))) ∧ Below w.heap.size w w' := by
  obtain ⟨a, c, e⟩ := hr.slice
  obtain ⟨len, hl⟩ : ∃ l, m.length = l := ⟨_, rfl⟩
  rw [hl] at e
  subst e
  obtain ⟨W, hW⟩ : ∃ W, W = w.alloc (Obj.cells #[.slice a len c] 49) := ⟨_, rfl⟩
  have hA : Below w.heap.size w W := by rw [hW]; exact (Below.refl _ _).alloc (Nat.le_refl _) _
  have hC := szFunS_of _ _ _ (FuR.lasts d) (FuR.shape d) (szFun_any d) _ m left W (hr.later (FuR.lasts d) hA) hw h0 h1
  have HY : Hid (lft left (szM d m) < 0 → lft left (szM d m) = -1) := fun h => by
    unfold lft at h ⊢
    split at h
    · omega
    · rename_i h4; rw [if_neg h4]
  have e0 : lft left (szRow (szF d) m) = lft left (szM d m) := rfl
  rw [e0] at hC
  obtain ⟨y, hy⟩ : ∃ y, lft left (szM d m) = y := ⟨_, rfl⟩
  rw [hy] at hC HY ⊢
  rw [hW] at hC
  have HW : Hid (W = _) := hW
  clear hW hr hw hy e0 hl
  go_enter Try.func28, Try.ntmps28
  go_wp2_with fail
  refine hC.mono ?_
  clear hC
  rintro e w1 ⟨rfl, hb1⟩
  rw [← HW.out] at hb1
  have hb2 : Below w.heap.size w w1 := hA.trans (hb1.mono hA.size)
  clear hb1 hA HW
  by_cases hn : y < 0
  · have e1 := HY.out hn
    subst e1
    go_wp2
    go_ret
    exact ⟨rfl, hb2⟩
  · go_wp2
    go_ret
    exact ⟨rfl, hb2⟩

end Go.Proofs.Ytpokheklplcamaa
