/- The law's own marks on an expression; its comparison and marks of lists of texts. -/
import Derived.Test.YtgeedoeaepcmcaaGreatDoorXk0M
import Derived.Test.YtgeedoeaepcmcaaGreatDoorSVarsM
import Derived.Test.YtgeedoeaepcmcaaGreatDoorTmM
import Derived.BigQuiet
import Derived.Test.YtgeedoeaepcmcaaGreatDoorXmM
namespace Go.Proofs.YtgeedoeaepcmcaaGreatDoor
open Go.RowKit
set_option linter.unusedVariables false

theorem OwnRow.none {α : Type} {k : Nat} {T : TypeId} {O : World → List Value → α → List Nat → Prop} {w : World} {v : Value} {xs : List α} {fp : List Nat} (h : OwnRow k T O w v xs fp) (hO : ∀ w vs x f, ¬ O w vs x f) : ∃ a c, v = .slice a 0 c := by
  rcases h with ⟨_, _, e⟩ | ⟨g, c, cur, fps, e, _, _, _, h4⟩
  · exact e
  · cases xs with
    | nil => exact ⟨_, c, e⟩
    | cons x r =>
      obtain ⟨vs, f, _, _, _, ho⟩ := h4 0 x rfl
      exact absurd ho (hO _ _ _ _)

/-- A slice of texts. -/
def TellS (w : World) (v : Value) (l : List ByteArray) : Prop := ∃ a c, v = .slice a l.length c ∧ ∀ (i : Nat) (s : ByteArray), l[i]? = some s → ∃ b o, a = some ⟨b, o, none⟩ ∧ w.cell? ⟨b, o + i, none⟩ = some (.string s)

theorem StrRow.tellS {w : World} {B : Nat} {v : Value} {l : List ByteArray} (h : StrRow w B v l) : TellS w v l := by
  rcases h.2 with ⟨e, h0⟩ | ⟨g, cap, cur, e, _, hg, _, _, _, ht⟩
  · have : l = [] := List.length_eq_zero_iff.1 h0
    subst this
    exact ⟨_, _, e, fun i s hs => by simp at hs⟩
  · refine ⟨_, cap, e, fun i s hs => ⟨g, 0, rfl, ?_⟩⟩
    have hi := (List.getElem?_eq_some_iff.1 hs).1
    rw [Nat.zero_add, cell_of_row w _ _ _ _ _ hg]
    have h1 : (l.map Value.string)[i]? = some (.string s) := by rw [List.getElem?_map, hs]; rfl
    rw [← ht, Nat.mul_one, List.getElem?_take, if_pos hi] at h1
    simpa using h1
theorem TellS.later {w w' : World} {v : Value} {l : List ByteArray} (h : TellS w v l) (hb : Below w.heap.size w w') : TellS w' v l := by
  obtain ⟨a, c, e, h1⟩ := h
  refine ⟨a, c, e, fun i s hs => ?_⟩
  obtain ⟨b, o, h2, h3⟩ := h1 i s hs
  exact ⟨b, o, h2, cell_later hb h3⟩

set_option maxHeartbeats 1000000 in
theorem eqStrs_any (v1 v2 : Value) (l : List ByteArray) (w : World) (h1 : TellS w v1 l) (h2 : TellS w v2 l) (hm : l.length ≤ 9223372036854775807) :
    Calls Tryz.prog 44 #[v1, v2] w fun e w' => e = .returned (.bool true) ∧ Below w.heap.size w w' := by
  obtain ⟨a1, c1, rfl, e1⟩ := h1
  obtain ⟨a2, c2, rfl, e2⟩ := h2
  have HE1 : Hid (∀ (i : Nat) (s : ByteArray), l[i]? = some s → ∃ b o, a1 = some ⟨b, o, none⟩ ∧ w.cell? ⟨b, o + i, none⟩ = some (.string s)) := e1
  have HE2 : Hid (∀ (i : Nat) (s : ByteArray), l[i]? = some s → ∃ b o, a2 = some ⟨b, o, none⟩ ∧ w.cell? ⟨b, o + i, none⟩ = some (.string s)) := e2
  obtain ⟨len, hlen⟩ : ∃ len, l.length = len := ⟨_, rfl⟩
  have HLN : Hid (l.length = len) := hlen
  rw [hlen] at hm ⊢
  clear hlen e1 e2
  go_enter Tryz.func44, Tryz.ntmps44
  go_wp2_with fail
  go_loopw [5] (fun i wr => ∃ k : Nat, k ≤ len ∧ i = .int .i64 k ∧ Below w.heap.size w wr) (fun i _ => len - (intOf i).toNat)
  case atStart => exact ⟨0, Nat.zero_le _, rfl, Below.refl _ _⟩
  case round =>
    obtain ⟨k, hk, rfl, hb⟩ := hrel
    by_cases hkl : k < len
    · obtain ⟨s, hs⟩ : ∃ s, l[k]? = some s := ⟨_, List.getElem?_eq_getElem (by rw [HLN.out]; exact hkl)⟩
      obtain ⟨b, o, rfl, f0⟩ := HE1.out k s hs
      obtain ⟨b2, o2, rfl, g0⟩ := HE2.out k s hs
      have f1 := cell_later hb f0
      have g1 := cell_later hb g0
      have hkl' : (k : Int) < (len : Int) := by omega
      clear f0 g0 hs
      go_wp2_with fail
      go_region
      all_goals
        have hb2 : Below w.heap.size w wr.drew := hb.drew
        clear hb
        go_wp2
        go_roundw
        case rel => exact ⟨k + 1, by omega, by go_num, hb2⟩
        case measure => simp [intOf]; omega
    · go_wp2
      go_ret
      exact ⟨rfl, hb⟩

/-- The marks on n texts from k on. -/
def mks (k : Int) (n : Nat) : List ByteArray := (List.range n).map fun i => mt (k + (i : Nat))

theorem mks_len (k : Int) (n : Nat) : (mks k n).length = n := by simp [mks]
theorem mks_at (k : Int) (n i : Nat) (h : i < n) : (mks k n)[i]? = some (mt (k + (i : Nat))) := by simp [mks, h]

end Go.Proofs.YtgeedoeaepcmcaaGreatDoor

/- Functions and modules as data; the law's own measure of them. -/
namespace Go.Proofs.YtgeedoeaepcmcaaGreatDoor
open Go.RowKit
set_option linter.unusedVariables false

/-- One cell that is a text. -/
def StR (w : World) (vs : List Value) (s : ByteArray) : Prop := vs = [.string s]
def StO (w : World) (vs : List Value) (s : ByteArray) (fp : List Nat) : Prop := vs = [.string s] ∧ fp = []
def StP (s : ByteArray) : Prop := s.size ≤ maxLen
theorem StR.lasts : Lasts StR := fun _ _ _ _ h _ => h
theorem StO.lasts : LastsO StO := fun _ _ _ _ _ h _ => h
theorem StO.reads : Reads StO StR := fun _ _ _ _ h => h.1

theorem row_tell {w : World} {v : Value} {l : List ByteArray} (h : RowOf 1 StR w v l) : TellS w v l := by
  obtain ⟨a, c, rfl, h1⟩ := h
  refine ⟨a, c, rfl, fun i s hs => ?_⟩
  obtain ⟨b, o, vs, h2, _, h4, h5⟩ := h1 i s hs
  have h5' : vs = [.string s] := h5
  subst h5'
  exact ⟨b, o, h2, by have := h4 0 _ rfl; simpa using this⟩

/-- A function: its name, its parameters, and what it comes to. -/
def Fu (d : Nat) : Type := ByteArray × List ByteArray × Ex d
def Fu.nm {d : Nat} (f : Fu d) : ByteArray := f.1
def Fu.ps {d : Nat} (f : Fu d) : List ByteArray := f.2.1
def Fu.x {d : Nat} (f : Fu d) : Ex d := f.2.2

def FuR (d : Nat) (w : World) (vs : List Value) (f : Fu d) : Prop := ∃ vp vx, vs = .string f.nm :: vp :: vx ∧ RowOf 1 StR w vp f.ps ∧ ExR d w vx f.x
def FuO (d : Nat) (w : World) (vs : List Value) (f : Fu d) (fp : List Nat) : Prop := ∃ vp vx g h, vs = .string f.nm :: vp :: vx ∧ fp = g ++ h ∧ OwnRow 1 9 StO w vp f.ps g ∧ ExO d w vx f.x h
def WfF (d : Nat) (f : Fu d) : Prop := f.nm.size ≤ maxLen ∧ WfRow StP f.ps ∧ WfX d f.x
def szF (d : Nat) (f : Fu d) : Nat := f.nm.size + szRow ByteArray.size f.ps + szX d f.x

theorem FuR.lasts (d : Nat) : Lasts (FuR d) := by
  rintro w w' vs f ⟨vp, vx, rfl, h1, h2⟩ hb
  exact ⟨vp, vx, rfl, h1.later StR.lasts hb, ExR.lasts d _ _ _ _ h2 hb⟩
theorem FuO.lasts (d : Nat) : LastsO (FuO d) := by
  rintro w w' vs f fp ⟨vp, vx, g, h, rfl, rfl, h1, h2⟩ hb
  exact ⟨vp, vx, g, h, rfl, rfl, h1.frame StO.lasts fun j hj => hb j (List.mem_append_left _ hj), ExO.lasts d _ _ _ _ _ h2 fun j hj => hb j (List.mem_append_right _ hj)⟩
theorem FuO.reads (d : Nat) : Reads (FuO d) (FuR d) := by
  rintro w vs f fp ⟨vp, vx, g, h, rfl, rfl, h1, h2⟩
  exact ⟨vp, vx, rfl, h1.rd StO.reads, ExO.reads d _ _ _ _ h2⟩
theorem FuR.shape (d : Nat) : ∀ w vs f, FuR d w vs f → ShFun vs := by
  rintro w vs f ⟨vp, vx, rfl, h1, h2⟩
  obtain ⟨a, c, rfl⟩ := h1.slice
  obtain ⟨_, _, _, _, _, _, _, _, _, rfl⟩ := ExR.shape d _ _ _ h2
  exact ⟨_, _, _, _, _, _, _, _, _, _, _, _, _, rfl⟩
theorem FuO.shape (d : Nat) : ∀ w vs f fp, FuO d w vs f fp → ShFun vs := fun w vs f fp h => FuR.shape d w vs f (FuO.reads d w vs f fp h)

set_option maxHeartbeats 1000000 in
theorem szStrs_any : SzLs 31 1 StR StP ByteArray.size := by
  intro v xs left w hr hw h0 h1
  obtain ⟨a, c, rfl, hel⟩ := row_tell hr
  have HE : Hid (∀ (i : Nat) (s : ByteArray), xs[i]? = some s → ∃ b o, a = some ⟨b, o, none⟩ ∧ w.cell? ⟨b, o + i, none⟩ = some (.string s)) := hel
  have HW : Hid (WfRow StP xs) := hw
  have hm : xs.length ≤ 9223372036854775807 := hw.1
  clear hel hw hr
  obtain ⟨len, hlen⟩ : ∃ len, xs.length = len := ⟨_, rfl⟩
  have HLN : Hid (xs.length = len) := hlen
  rw [hlen] at hm ⊢
  clear hlen
  by_cases hlt : left < len
  · have HF : Hid ((-1 : Int) = lft left (szRow ByteArray.size xs)) := by show _ = _; have := sumP_all ByteArray.size xs; rw [HLN.out] at this; unfold lft; rw [if_neg (by omega)]
    go_enter Tryz.func31, Tryz.ntmps31
    go_wp2
    go_ret
    exact ⟨tret1 HF.out, Below.refl _ _⟩
  · go_enter Tryz.func31, Tryz.ntmps31
    go_wp2_with fail
    go_loopw [1, 5] (fun x i wr => ∃ k : Nat, k ≤ len ∧ i = .int .i64 k ∧ x = .int .i64 (left - len - sumP ByteArray.size xs k) ∧ 0 ≤ left - (len : Int) - sumP ByteArray.size xs k ∧ Below w.heap.size w wr) (fun _ i _ => len - (intOf i).toNat)
    case atStart => exact ⟨0, Nat.zero_le _, rfl, by simp [sumP], by simp [sumP]; omega, Below.refl _ _⟩
    case round =>
      obtain ⟨k, hk, rfl, rfl, hx0, hb⟩ := hrel
      obtain ⟨x, hx⟩ : ∃ x, left - (len : Int) - sumP ByteArray.size xs k = x := ⟨_, rfl⟩
      have HX : Hid (left - (len : Int) - sumP ByteArray.size xs k = x) := hx
      rw [hx] at hx0 ⊢
      have hx1 : x ≤ 1048576 := by omega
      clear hx
      by_cases hkl : k < len
      · obtain ⟨t, ht⟩ : ∃ t, xs[k]? = some t := ⟨_, List.getElem?_eq_getElem (by rw [HLN.out]; exact hkl)⟩
        obtain ⟨b, o, rfl, f0⟩ := HE.out k t ht
        have f1 := cell_later hb f0
        have hpt : t.size ≤ 9223372036854775807 := Nat.le_trans (HW.out.2 t (List.mem_of_getElem? ht)) (by decide)
        have hstep := sumP_succ ByteArray.size xs k t ht
        have hkl' : (k : Int) < (len : Int) := by omega
        clear f0
        by_cases hneg : x < t.size
        · have HF : Hid ((-1 : Int) = lft left (szRow ByteArray.size xs)) := by
            have h1 := sumP_all ByteArray.size xs
            have h2 := sumP_le ByteArray.size xs (k + 1)
            have h3 := HX.out
            have h5 := HLN.out
            have h6 : szRow ByteArray.size xs = xs.length + (xs.map ByteArray.size).sum := rfl
            show _ = _
            unfold lft; rw [if_neg (by omega)]
          clear hstep HX ht
          go_wp2
          go_ret
          exact ⟨tret1 HF.out, hb⟩
        · have HY : Hid (x - (t.size : Int) = left - (len : Int) - sumP ByteArray.size xs (k + 1) ∧ 0 ≤ left - (len : Int) - sumP ByteArray.size xs (k + 1)) := by
            have h3 := HX.out
            show _ ∧ _; omega
          clear hstep HX ht
          go_wp2
          go_roundw
          case rel => exact ⟨k + 1, by omega, by go_num, by rw [← HY.out.1], HY.out.2, hb⟩
          case measure => simp [intOf]; omega
      · have HF : Hid (x = lft left (szRow ByteArray.size xs)) := by
          have h1 := sumP_all ByteArray.size xs
          have h3 := HX.out
          have h5 := HLN.out
          have hk' : k = xs.length := by omega
          rw [hk'] at h3
          unfold lft; rw [if_pos (by omega)]; show _ = _; omega
        clear HX
        go_wp2
        go_ret
        exact ⟨tret1 HF.out, hb⟩

set_option maxHeartbeats 1000000 in
theorem szFun_any (d : Nat) : SzEl 19 (FuR d) (WfF d) (szF d) := by
  rintro vs x left w ⟨vp, vx, rfl, h1, h2⟩ ⟨w1, w2, w3⟩ h0 hm
  obtain ⟨a1, c1, rfl⟩ := h1.slice
  obtain ⟨l1, e1⟩ : ∃ l, x.ps.length = l := ⟨_, rfl⟩
  rw [e1] at h1 ⊢
  obtain ⟨i2, i3, s4, a5, l5, c5, a6, l6, c6, rfl⟩ := ExR.shape d _ _ _ h2
  have hs : x.nm.size ≤ 9223372036854775807 := by unfold maxLen at w1; omega
  obtain ⟨W, hW⟩ : ∃ W, W = w.alloc (Obj.cells #[.string x.nm, .slice a1 l1 c1, .int .i64 i2, .int .i64 i3, .string s4, .slice a5 l5 c5, .slice a6 l6 c6] 62) := ⟨_, rfl⟩
  have hA : Below w.heap.size w W := by rw [hW]; exact (Below.refl _ _).alloc (Nat.le_refl _) _
  have hWc : W.heap[w.heap.size]? = some (Obj.cells #[.string x.nm, .slice a1 l1 c1, .int .i64 i2, .int .i64 i3, .string s4, .slice a5 l5 c5, .slice a6 l6 c6] 62 (0, 0)) := by rw [hW]; exact heap_alloc_new w _
  obtain ⟨A, hA0⟩ : ∃ A, szRow ByteArray.size x.ps = A := ⟨_, rfl⟩
  obtain ⟨B, hB0⟩ : ∃ B, szX d x.x = B := ⟨_, rfl⟩
  have e0 : szF d x = x.nm.size + A + B := by rw [← hA0, ← hB0]; rfl
  rw [e0]
  have HEE := szStrs_any _ _ (left - x.nm.size) W (h1.later StR.lasts hA) w2
  have HCC : Hid (∀ V : World, Below W.heap.size W V → ∀ l : Int, 0 ≤ l → l ≤ 1048576 → _) := fun V hV l p1 p2 => szExpr_any d _ x.x l V (ExR.lasts d _ _ _ _ (ExR.lasts d _ _ _ _ h2 hA) hV) w3 p1 p2
  rw [hA0] at HEE
  rw [hB0] at HCC
  obtain ⟨S, hS⟩ : ∃ S, x.nm = S := ⟨_, rfl⟩
  rw [hS] at hW hWc
  rw [hS] at HEE hs
  rw [hS]
  clear e0 hA0 hB0 w1 w2 w3 h1 h2 e1 hS
  by_cases hlt : left < S.size
  · have HF : Hid ((-1 : Int) = lft left (S.size + A + B)) := by unfold lft; rw [if_neg (by omega)]; exact rfl
    rw [hW] at hA
    clear HEE hWc HCC
    go_enter Tryz.func19, Tryz.ntmps19
    go_wp2
    go_ret
    exact ⟨tret1 HF.out, hA⟩
  · have hC := HEE (by omega) (by omega)
    obtain ⟨L1, L2⟩ := lft_two (left - S.size) A B (by omega)
    have L0 : lft (left - S.size) (A + B) = lft left (S.size + A + B) := by
      unfold lft
      by_cases h : ((A + B : Nat) : Int) ≤ left - S.size
      · rw [if_pos h, if_pos (by omega)]; omega
      · rw [if_neg h, if_neg (by omega)]
    rw [L0] at L1 L2
    rw [hW] at hC
    have HW : Hid (W = _) := hW
    have HZ : Hid (w.heap.size < W.heap.size ∧ Below w.heap.size w W) := ⟨lt_row hWc, hA⟩
    have HWC : Hid _ := hWc
    clear hW hA hWc HEE L0
    obtain ⟨y, hy⟩ : ∃ y, lft (left - S.size) A = y := ⟨_, rfl⟩
    rw [hy] at hC L1 L2
    clear hy
    by_cases hneg : y < 0
    · have HF : Hid (lft left (S.size + A + B) = -1) := L1 hneg
      clear L1 L2
      go_enter Tryz.func19, Tryz.ntmps19
      go_wp2_with fail
      refine hC.mono ?_
      clear hC
      rintro e w1 ⟨rfl, hb1⟩
      rw [← HW.out] at hb1
      have hb2 : Below w.heap.size w w1 := HZ.out.2.trans (hb1.mono HZ.out.2.size)
      clear hb1
      go_wp2
      go_ret
      exact ⟨tret1 HF.out.symm, hb2⟩
    · obtain ⟨E1, E2, E3⟩ := L2 hneg
      clear L1 L2
      obtain ⟨z, hz⟩ : ∃ z, lft y B = z := ⟨_, rfl⟩
      rw [hz] at E1
      have HE : Hid (z = lft left (S.size + A + B)) := E1
      have HZN : Hid (z < 0 → z = -1) := fun h => by
        rw [← hz] at h ⊢
        unfold lft at h ⊢
        split at h
        · omega
        · rename_i h4; rw [if_neg h4]
      have hm2 : y ≤ 1048576 := by omega
      go_enter Tryz.func19, Tryz.ntmps19
      go_wp2_with fail
      refine hC.mono ?_
      clear hC
      rintro e w1 ⟨rfl, hb1⟩
      rw [← HW.out] at hb1
      have hD := HCC.out w1 hb1 y E2 hm2
      rw [hz] at hD
      have hh := (hb1.block _ HZ.out.1).trans HWC.out
      have f2 : w1.cell? ⟨w.heap.size, 2, none⟩ = some (.int .i64 i2) := by rw [cell_of_row w1 _ 2 _ _ _ hh]; rfl
      have f3 : w1.cell? ⟨w.heap.size, 3, none⟩ = some (.int .i64 i3) := by rw [cell_of_row w1 _ 3 _ _ _ hh]; rfl
      have f4 : w1.cell? ⟨w.heap.size, 4, none⟩ = some (.string s4) := by rw [cell_of_row w1 _ 4 _ _ _ hh]; rfl
      have f5 : w1.cell? ⟨w.heap.size, 5, none⟩ = some (.slice a5 l5 c5) := by rw [cell_of_row w1 _ 5 _ _ _ hh]; rfl
      have f6 : w1.cell? ⟨w.heap.size, 6, none⟩ = some (.slice a6 l6 c6) := by rw [cell_of_row w1 _ 6 _ _ _ hh]; rfl
      have hb2 : Below w.heap.size w w1 := HZ.out.2.trans (hb1.mono HZ.out.2.size)
      clear hb1 hh hz E1 HCC
      go_wp2_with fail
      refine hD.mono ?_
      clear hD f2 f3 f4 f5 f6
      rintro e w2 ⟨rfl, hb3⟩
      have hb4 : Below w.heap.size w w2 := hb2.trans (hb3.mono hb2.size)
      clear hb3 hb2
      by_cases hn2 : z < 0
      · have e1 := HZN.out hn2
        subst e1
        go_wp2
        go_ret
        exact ⟨tret1 HE.out, hb4⟩
      · go_wp2
        go_ret
        exact ⟨tret1 HE.out, hb4⟩

/-- A module: its functions. -/
def szM (d : Nat) (m : List (Fu d)) : Nat := szRow (szF d) m

set_option maxHeartbeats 1000000 in
theorem szModule_any (d : Nat) (v : Value) (m : List (Fu d)) (left : Int) (w : World) (hr : RowOf 7 (FuR d) w v m) (hw : WfRow (WfF d) m) (h0 : 0 ≤ left) (h1 : left ≤ 1048576) :
    Calls Tryz.prog 4 #[.agg #[v], .int .i64 left] w fun e w' => e = .returned (.int .i64 (lft left (szM d m))) ∧ Below w.heap.size w w' := by
  obtain ⟨a, c, e⟩ := hr.slice
  obtain ⟨len, hl⟩ : ∃ l, m.length = l := ⟨_, rfl⟩
  rw [hl] at e
  subst e
  obtain ⟨W, hW⟩ : ∃ W, W = w.alloc (Obj.cells #[.slice a len c] 24) := ⟨_, rfl⟩
  have hA : Below w.heap.size w W := by rw [hW]; exact (Below.refl _ _).alloc (Nat.le_refl _) _
  have hC := szFunS_of _ _ _ (FuR.lasts d) (FuR.shape d) (szFun_any d) _ m left W (hr.later (FuR.lasts d) hA) hw h0 h1
  have HY : Hid (lft left (szM d m) < 0 → lft left (szM d m) = -1) := fun h => by
    unfold lft at h ⊢
    split at h
    · omega
    · rename_i h4; rw [if_neg h4]
  have e0 : lft left (szRow (szF d) m) = lft left (szM d m) := rfl
  rw [e0] at hC
  obtain ⟨y, hy⟩ : ∃ y, lft left (szM d m) = y := ⟨_, rfl⟩
  rw [hy] at hC HY ⊢
  rw [hW] at hC
  have HW : Hid (W = _) := hW
  clear hW hr hw hy e0 hl
  go_enter Tryz.func4, Tryz.ntmps4
  go_wp2_with fail
  refine hC.mono ?_
  clear hC
  rintro e w1 ⟨rfl, hb1⟩
  rw [← HW.out] at hb1
  have hb2 : Below w.heap.size w w1 := hA.trans (hb1.mono hA.size)
  clear hb1 hA HW
  by_cases hn : y < 0
  · have e1 := HY.out hn
    subst e1
    go_wp2
    go_ret
    exact ⟨rfl, hb2⟩
  · go_wp2
    go_ret
    exact ⟨rfl, hb2⟩

end Go.Proofs.YtgeedoeaepcmcaaGreatDoor

/- The law's own copy of functions and modules. -/
namespace Go.Proofs.YtgeedoeaepcmcaaGreatDoor
open Go.RowKit
set_option linter.unusedVariables false

set_option maxHeartbeats 2000000 in
theorem toStrs_any : ToLs 36 1 9 StR StO StP ByteArray.size := by
  obtain ⟨i0, hi, hz0, hz1, hz2⟩ := info_parts Tryz.infoStr
  intro v xs w hr hw hz
  obtain ⟨a, c, rfl, hel⟩ := row_tell hr
  have HE : Hid (∀ (i : Nat) (s : ByteArray), xs[i]? = some s → ∃ b o, a = some ⟨b, o, none⟩ ∧ w.cell? ⟨b, o + i, none⟩ = some (.string s)) := hel
  obtain ⟨len, hlen⟩ : ∃ len, xs.length = len := ⟨_, rfl⟩
  have HLN : Hid (xs.length = len) := hlen
  have hm : len ≤ 1048576 := by have := sumP_all ByteArray.size xs; omega
  rw [hlen]
  clear hlen hel hw hz hr
  go_enter Tryz.func36, Tryz.ntmps36
  go_wp2_with (at_make; refine wpList_make_full _ rfl _ _ 35 rfl w.heap.size 9 i0 _ 1 Tryz.underlying35 hi hz0 hz1 _ _ _ _ len rfl rfl rfl rfl (by rw [hz2]; omega) (by unfold maxLen; omega) (Nat.le_refl _) ?_)
  intro w1 hown hgrow
  have hbel : Below w.heap.size w w1 := (Below.refl _ _).grown hgrow (Nat.le_refl _) (fun _ h => by cases h)
  obtain ⟨cur0, hc0, hs0⟩ : ∃ cur, w1.heap[w.heap.size]? = some (.cells cur 9 (0, 0)) ∧ cur.size = len * 1 := by
    rcases hown.2 with ⟨h', _⟩ | ⟨g', cap', cur, h', _, hg, _, _, hs, _⟩
    · simp at h'
    · simp only [Value.slice.injEq, Option.some.injEq, Addr.mk.injEq, and_true, true_and] at h'
      obtain ⟨rfl, rfl⟩ := h'
      exact ⟨cur, hg, hs⟩
  clear hown hgrow
  go_wp2
  go_loopw [4] (fun i wr => ∃ (k : Nat) (cur : Array Value) (fps : List (List Nat)), k ≤ len ∧ i = .int .i64 k ∧ wr.heap[w.heap.size]? = some (.cells cur 9 (0, 0)) ∧ cur.size = len * 1 ∧ fps.length = k ∧ fps.flatten.Nodup ∧ (∀ g ∈ fps.flatten, w.heap.size < g ∧ g < wr.heap.size) ∧ Below w.heap.size w wr ∧ Hid (DoneRow 1 StO xs k wr cur fps)) (fun i _ => len - (intOf i).toNat)
  case atStart => exact ⟨0, cur0, [], Nat.zero_le _, rfl, hc0, hs0, rfl, by simp, by simp, hbel, fun i t hi => by omega⟩
  case round =>
    clear hc0 hs0 hbel
    obtain ⟨k, cur, fps, hk, rfl, hh, hcs, hfl, hnd, hfr, hb, HD⟩ := hrel
    have hwz : w.heap.size < wr.heap.size := lt_row hh
    by_cases hkl : k < len
    · obtain ⟨t, ht⟩ : ∃ t, xs[k]? = some t := ⟨_, List.getElem?_eq_getElem (by rw [HLN.out]; exact hkl)⟩
      obtain ⟨b, o, rfl, f0⟩ := HE.out k t ht
      have f1 := cell_later hb f0
      have hsz : k < cur.size := by omega
      have c0 : wr.cell? ⟨w.heap.size, k, none⟩ = some cur[k] := by rw [cell_of_row wr _ _ _ _ _ hh]; exact Array.getElem?_eq_getElem hsz
      have z0 : wr.frozen? ⟨w.heap.size, k, none⟩ = false := frozen_of_row wr _ _ _ _ hh
      obtain ⟨S1, S2, S3, S4, S5, S6, S7⟩ := row_step StO.lasts hkl hcs hfl hnd hfr hwz hb (Below.refl _ _) HD.out ht (vs := [.string t]) rfl ⟨rfl, rfl⟩ ⟨List.nodup_nil, fun g hg => by cases hg⟩ hh
      have e1 : setL wr w.heap.size (k * 1) [.string t] = wr.setCell ⟨w.heap.size, k, none⟩ (.string t) := by rw [Nat.mul_one]; rfl
      rw [e1] at S1 S5 S6 S7
      have HS : Hid ((_ ∧ _ ∧ _ ∧ _ ∧ _ ∧ _) ∧ _) := ⟨⟨S1, S2, S3, S4, S5, S6⟩, S7⟩
      have hkl' : (k : Int) < (len : Int) := by omega
      clear S1 S2 S3 S4 S5 S6 S7 hh hcs hfl hnd hfr hb HD f0 ht e1
      go_wp2
      go_roundw
      case rel => exact ⟨k + 1, _, _, by omega, by go_num, HS.out.1.1, HS.out.1.2.1, HS.out.1.2.2.1, HS.out.1.2.2.2.1, HS.out.1.2.2.2.2.1, HS.out.1.2.2.2.2.2, HS.out.2⟩
      case measure => simp [intOf]; omega
    · obtain rfl : k = len := by omega
      have HO := row_done (T := 9) (w := w) HLN.out hfl hnd hfr hwz hh HD.out
      have HFF : Hid _ := HO
      clear HO hh hcs hfl hnd hfr HD
      go_wp2
      go_ret
      exact ⟨_, _, _, _, rfl, HFF.out.1, HFF.out.2, hb⟩

set_option maxRecDepth 100000 in
set_option maxHeartbeats 2000000 in
theorem toFun_any (d : Nat) : ToEl 23 (FuR d) (FuO d) (WfF d) (szF d) := by
  rintro vs x w ⟨vp, vx, rfl, h1, h2⟩ ⟨_, w2, w3⟩ hz
  have hz' : x.nm.size + szRow ByteArray.size x.ps + szX d x.x ≤ 1048576 := hz
  obtain ⟨a1, c1, rfl⟩ := h1.slice
  obtain ⟨l1, e1⟩ : ∃ l, x.ps.length = l := ⟨_, rfl⟩
  rw [e1] at h1 ⊢
  obtain ⟨i2, i3, s4, a5, l5, c5, a6, l6, c6, rfl⟩ := ExR.shape d _ _ _ h2
  obtain ⟨S, hS⟩ : ∃ S, x.nm = S := ⟨_, rfl⟩
  have HX : Hid (x.nm = S) := hS
  rw [hS]
  obtain ⟨W, hW⟩ : ∃ W, W = ((w.alloc (Obj.cells #[.string S, .slice a1 l1 c1, .int .i64 i2, .int .i64 i3, .string s4, .slice a5 l5 c5, .slice a6 l6 c6] 62)).alloc (.cells #[.string ⟨#[]⟩, .slice none 0 0, .int .i64 0, .int .i64 0, .string ⟨#[]⟩, .slice none 0 0, .slice none 0 0] 41)).alloc (.cells #[.string S, .slice none 0 0, .int .i64 0, .int .i64 0, .string ⟨#[]⟩, .slice none 0 0, .slice none 0 0] 41) := ⟨_, rfl⟩
  obtain ⟨nA, nB, nC⟩ := heap_three w (Obj.cells #[.string S, .slice a1 l1 c1, .int .i64 i2, .int .i64 i3, .string s4, .slice a5 l5 c5, .slice a6 l6 c6] 62) (.cells #[.string ⟨#[]⟩, .slice none 0 0, .int .i64 0, .int .i64 0, .string ⟨#[]⟩, .slice none 0 0, .slice none 0 0] 41) (.cells #[.string S, .slice none 0 0, .int .i64 0, .int .i64 0, .string ⟨#[]⟩, .slice none 0 0, .slice none 0 0] 41)
  rw [← hW] at nA nB nC
  have hWb : Below w.heap.size w W := by rw [hW]; exact (((Below.refl _ _).alloc (Nat.le_refl _) _).alloc (by simp) _).alloc (by simp; omega) _
  have hWs : W.heap.size = w.heap.size + 1 + 1 + 1 := by rw [hW]; simp
  have hC := toStrs_any _ _ W (h1.later StR.lasts hWb) w2 (by omega)
  have HR2 : Hid (∀ V : World, Below w.heap.size w V → _) := fun V hV => toExpr_any d _ x.x V (ExR.lasts d _ _ _ _ h2 hV) w3 (by omega)
  have HSO : Hid (∀ (V : World) (vs : List Value) (f : List Nat), ExO d V vs x.x f → ShExpr vs) := fun V vs f h => ExO.shape d V vs x.x f h
  rw [hW] at hC
  have HW : Hid (W = _) := hW
  have HN : Hid (_ ∧ _ ∧ _) := ⟨nA, nB, nC⟩
  clear hW h1 h2 nA nB nC w2 w3 hz hz' hS e1
  go_enter Tryz.func23, Tryz.ntmps23
  go_wp2_with fail
  refine hC.mono ?_
  clear hC
  rintro e w1 ⟨ya1, yl1, yc1, fp1, rfl, hown1, hfr1, hb1⟩
  rw [← HW.out] at hfr1 hb1
  obtain ⟨nA, nB, nC⟩ := HN.out
  have nA1 := (hb1.block _ (by omega)).trans nA
  have nB1 := (hb1.block _ (by omega)).trans nB
  have nC1 := (hb1.block _ (by omega)).trans nC
  obtain ⟨V1, hV1⟩ : ∃ V, V = w1.setCell ⟨w.heap.size + 1 + 1, 1, none⟩ (.slice ya1 yl1 yc1) := ⟨_, rfl⟩
  have hV1' : V1 = setL w1 (w.heap.size + 1 + 1) 1 [.slice ya1 yl1 yc1] := hV1
  have hzV : V1.heap.size = w1.heap.size := by rw [hV1']; exact setL_size _ _ _ _
  have hkV : ∀ j, j ≠ w.heap.size + 1 + 1 → V1.heap[j]? = w1.heap[j]? := fun j hj => by rw [hV1']; exact setL_other _ _ _ _ _ hj
  have hbV : Below (w.heap.size + 1 + 1) w1 V1 := by rw [hV1']; exact setL_below _ _ _ _ _ (Nat.le_refl _)
  have nAV := (hkV _ (by omega)).trans nA1
  have nBV := (hkV _ (by omega)).trans nB1
  have nCV : V1.heap[w.heap.size + 1 + 1]? = some (.cells #[.string S, .slice ya1 yl1 yc1, .int .i64 0, .int .i64 0, .string ⟨#[]⟩, .slice none 0 0, .slice none 0 0] 41 (0, 0)) := by rw [hV1']; exact setL_row _ _ _ _ _ _ nC1
  have hbw1 : Below w.heap.size w w1 := hWb.trans (hb1.mono hWb.size)
  have hbwV : Below w.heap.size w V1 := hbw1.trans (hbV.mono (by omega))
  have hown1V := hown1.frame (w' := V1) StO.lasts fun g hg => hkV g (by have := (hfr1.2 g hg).1; omega)
  have hz1 := hb1.size
  have hD := HR2.out V1 hbwV
  rw [hV1] at hD
  have HV1 : Hid (V1 = _) := hV1
  have HO1 : Hid (OwnRow 1 9 StO V1 (.slice ya1 yl1 yc1) x.ps fp1) := hown1V
  have HB1 : Hid (Below w.heap.size w V1 ∧ Fresh W.heap.size w1 fp1 ∧ V1.heap.size = w1.heap.size) := ⟨hbwV, hfr1, hzV⟩
  have HNV : Hid (_ ∧ _ ∧ _) := ⟨nAV, nBV, nCV⟩
  have f2 : w1.cell? ⟨w.heap.size, 2, none⟩ = some (.int .i64 i2) := by rw [cell_of_row w1 _ 2 _ _ _ nA1]; rfl
  have f3 : w1.cell? ⟨w.heap.size, 3, none⟩ = some (.int .i64 i3) := by rw [cell_of_row w1 _ 3 _ _ _ nA1]; rfl
  have f4 : w1.cell? ⟨w.heap.size, 4, none⟩ = some (.string s4) := by rw [cell_of_row w1 _ 4 _ _ _ nA1]; rfl
  have f5 : w1.cell? ⟨w.heap.size, 5, none⟩ = some (.slice a5 l5 c5) := by rw [cell_of_row w1 _ 5 _ _ _ nA1]; rfl
  have f6 : w1.cell? ⟨w.heap.size, 6, none⟩ = some (.slice a6 l6 c6) := by rw [cell_of_row w1 _ 6 _ _ _ nA1]; rfl
  have g1 : w1.cell? ⟨w.heap.size + 1 + 1, 1, none⟩ = some (.slice none 0 0) := by rw [cell_of_row w1 _ 1 _ _ _ nC1]; rfl
  have z1 : w1.frozen? ⟨w.heap.size + 1 + 1, 1, none⟩ = false := frozen_of_row w1 _ _ _ _ nC1
  clear hV1 hV1' nA1 nB1 nC1 nA nB nC nAV nBV nCV hbw1 hbwV hown1V hown1 hfr1 hkV hbV HN HR2 hb1 hzV
  go_wp2_with fail
  refine hD.mono ?_
  clear hD f2 f3 f4 f5 f6 g1 z1
  rintro e w2 ⟨vs2, fp2, rfl, hown2, hfr2, hb2⟩
  obtain ⟨j2, j3, t4, r5, m5, d5, r6, m6, d6, rfl⟩ := HSO.out _ _ _ hown2
  have hfr2' : Fresh V1.heap.size w2 fp2 := by rw [HV1.out]; exact hfr2
  have hb2' : Below V1.heap.size V1 w2 := by rw [HV1.out]; exact hb2
  clear hfr2 hb2
  obtain ⟨nAV, nBV, nCV⟩ := HNV.out
  have hzB := HB1.out.2.2
  have nB2 := (hb2'.block _ (lt_row nBV)).trans nBV
  have nC2 := (hb2'.block _ (lt_row nCV)).trans nCV
  have hz2 := hb2'.size
  have HFIN : Hid (∀ Z, Kept (w.heap.size + 1) (w.heap.size + 1 + 1 + 1) w2 Z → FuO d Z [.string S, .slice ya1 yl1 yc1, .int .i64 j2, .int .i64 j3, .string t4, .slice r5 m5 d5, .slice r6 m6 d6] x (fp1 ++ fp2) ∧ Fresh w.heap.size Z (fp1 ++ fp2) ∧ Below w.heap.size w Z) := fun Z hZ => by
    have hf1 := HB1.out.2.1
    have hzZ := hZ.size
    obtain rfl := HX.out
    refine ⟨⟨_, _, fp1, fp2, rfl, rfl, ?_, ?_⟩, ?_, ?_⟩
    · refine HO1.out.frame StO.lasts fun g hg => ?_
      have := hf1.2 g hg
      exact (hZ.block g (by omega) (.inr (by omega))).trans (hb2'.block g (by omega))
    · exact ExO.lasts d _ _ _ _ _ hown2 fun g hg => hZ.block g (hfr2'.2 g hg).2 (.inr (by have := (hfr2'.2 g hg).1; omega))
    · exact fresh_two hf1 hfr2' (by omega) hz2 hzZ (by omega) (by omega)
    · have hbw2 : Below w.heap.size w w2 := HB1.out.1.trans (hb2'.mono HB1.out.1.size)
      exact hbw2.trans (hZ.below (by omega) hbw2.size)
  have bcell : ∀ j u, (#[.string ⟨#[]⟩, .slice none 0 0, .int .i64 0, .int .i64 0, .string ⟨#[]⟩, .slice none 0 0, .slice none 0 0] : Array Value)[j]? = some u → w2.cell? ⟨w.heap.size + 1, j, none⟩ = some u := fun j u hu => by rw [cell_of_row w2 _ _ _ _ _ nB2]; exact hu
  have ccell : ∀ j u, (#[.string S, .slice ya1 yl1 yc1, .int .i64 0, .int .i64 0, .string ⟨#[]⟩, .slice none 0 0, .slice none 0 0] : Array Value)[j]? = some u → w2.cell? ⟨w.heap.size + 1 + 1, j, none⟩ = some u := fun j u hu => by rw [cell_of_row w2 _ _ _ _ _ nC2]; exact hu
  have hfB : ∀ j, w2.frozen? ⟨w.heap.size + 1, j, none⟩ = false := fun j => frozen_of_row w2 _ _ _ _ nB2
  have hfC : ∀ j, w2.frozen? ⟨w.heap.size + 1 + 1, j, none⟩ = false := fun j => frozen_of_row w2 _ _ _ _ nC2
  have b0 := bcell 0 _ rfl
  have y0 := hfB 0
  have g0 := ccell 0 _ rfl
  have z0 := hfC 0
  have b1 := bcell 1 _ rfl
  have y1 := hfB 1
  have g1 := ccell 1 _ rfl
  have z1 := hfC 1
  have b2 := bcell 2 _ rfl
  have y2 := hfB 2
  have g2 := ccell 2 _ rfl
  have z2 := hfC 2
  have b3 := bcell 3 _ rfl
  have y3 := hfB 3
  have g3 := ccell 3 _ rfl
  have z3 := hfC 3
  have b4 := bcell 4 _ rfl
  have y4 := hfB 4
  have g4 := ccell 4 _ rfl
  have z4 := hfC 4
  have b5 := bcell 5 _ rfl
  have y5 := hfB 5
  have g5 := ccell 5 _ rfl
  have z5 := hfC 5
  have b6 := bcell 6 _ rfl
  have y6 := hfB 6
  have g6 := ccell 6 _ rfl
  have z6 := hfC 6
  clear nB2 nC2 nAV nBV nCV hown2 hfr2' hb2' HO1 HB1 HNV bcell ccell hfB hfC
  go_wp2_with fail
  refine bodyPost_ret (v := .agg #[.string S, .slice ya1 yl1 yc1, .int .i64 j2, .int .i64 j3, .string t4, .slice r5 m5 d5, .slice r6 m6 d6]) (by first | (simp [results, Tryz.results23, go_sem, b0, b1, b2, b3, b4, b5, b6]; done) | (simp [results, Tryz.results23, go_sem, b0, b1, b2, b3, b4, b5, b6]; rfl)) rfl ⟨[.string S, .slice ya1 yl1 yc1, .int .i64 j2, .int .i64 j3, .string t4, .slice r5 m5 d5, .slice r6 m6 d6], _, rfl, HFIN.out _ ?_⟩
  repeat (first | with_reducible exact Kept.refl _ _ _ | with_reducible refine Kept.drew ?_ | (with_reducible refine Kept.set ?_ ?_; omega))

theorem toFunS_any (d : Nat) : ToLs 12 7 41 (FuR d) (FuO d) (WfF d) (szF d) := toFunS_of _ _ _ _ (FuR.lasts d) (FuO.lasts d) (FuR.shape d) (FuO.shape d) (toFun_any d)

set_option maxHeartbeats 1000000 in
theorem toModule_any (d : Nat) (v : Value) (m : List (Fu d)) (w : World) (hr : RowOf 7 (FuR d) w v m) (hw : WfRow (WfF d) m) (hz : szM d m ≤ 1048576) :
    Calls Tryz.prog 6 #[.agg #[v]] w fun e w' => ∃ a l c fp, e = .returned (.agg #[.slice a l c]) ∧ OwnRow 7 41 (FuO d) w' (.slice a l c) m fp ∧ Fresh w.heap.size w' fp ∧ Below w.heap.size w w' := by
  obtain ⟨a, c, e⟩ := hr.slice
  obtain ⟨len, hl⟩ : ∃ l, m.length = l := ⟨_, rfl⟩
  rw [hl] at e
  subst e
  obtain ⟨W, hW⟩ : ∃ W, W = ((w.alloc (Obj.cells #[.slice a len c] 24)).alloc (.cells #[.slice none 0 0] 29)).alloc (.cells #[.slice none 0 0] 29) := ⟨_, rfl⟩
  obtain ⟨nA, nB, nC⟩ := heap_three w (Obj.cells #[.slice a len c] 24) (.cells #[.slice none 0 0] 29) (.cells #[.slice none 0 0] 29)
  rw [← hW] at nA nB nC
  have hWb : Below w.heap.size w W := by rw [hW]; exact (((Below.refl _ _).alloc (Nat.le_refl _) _).alloc (by simp) _).alloc (by simp; omega) _
  have hWs : W.heap.size = w.heap.size + 1 + 1 + 1 := by rw [hW]; simp
  have hC := toFunS_any d _ m W (hr.later (FuR.lasts d) hWb) hw hz
  rw [hW] at hC
  have HW : Hid (W = _) := hW
  have HN : Hid (_ ∧ _) := ⟨nB, nC⟩
  clear hW hr hw hz nA nB nC hl
  go_enter Tryz.func6, Tryz.ntmps6
  go_wp2_with fail
  refine hC.mono ?_
  clear hC
  rintro e w1 ⟨a1, l1, c1, fp, rfl, hown, hfr, hb⟩
  rw [← HW.out] at hfr hb
  obtain ⟨nB, nC⟩ := HN.out
  have nB1 := (hb.block _ (by omega)).trans nB
  have nC1 := (hb.block _ (by omega)).trans nC
  have b0 : w1.cell? ⟨w.heap.size + 1, 0, none⟩ = some (.slice none 0 0) := by rw [cell_of_row w1 _ 0 _ _ _ nB1]; rfl
  have g0 : w1.cell? ⟨w.heap.size + 1 + 1, 0, none⟩ = some (.slice none 0 0) := by rw [cell_of_row w1 _ 0 _ _ _ nC1]; rfl
  have y0 : w1.frozen? ⟨w.heap.size + 1, 0, none⟩ = false := frozen_of_row w1 _ _ _ _ nB1
  have z0 : w1.frozen? ⟨w.heap.size + 1 + 1, 0, none⟩ = false := frozen_of_row w1 _ _ _ _ nC1
  have HFIN : Hid (∀ Z, Kept (w.heap.size + 1) (w.heap.size + 1 + 1 + 1) w1 Z → OwnRow 7 41 (FuO d) Z (.slice a1 l1 c1) m fp ∧ Fresh w.heap.size Z fp ∧ Below w.heap.size w Z) := fun Z hZ => by
    have hzZ := hZ.size
    have hbw1 : Below w.heap.size w w1 := hWb.trans (hb.mono hWb.size)
    refine ⟨hown.frame (FuO.lasts d) fun g hg => hZ.block g (hfr.2 g hg).2 (.inr (by have := (hfr.2 g hg).1; omega)), ⟨hfr.1, fun g hg => ?_⟩, hbw1.trans (hZ.below (by omega) hbw1.size)⟩
    have := hfr.2 g hg
    omega
  clear nB nC nB1 nC1 hown hfr hb HN HW
  go_wp2_with fail
  refine bodyPost_ret (v := .agg #[.slice a1 l1 c1]) (by first | (simp [results, Tryz.results6, go_sem, b0]; done) | (simp [results, Tryz.results6, go_sem, b0]; rfl)) rfl ⟨a1, l1, c1, fp, rfl, HFIN.out _ ?_⟩
  repeat (first | with_reducible exact Kept.refl _ _ _ | with_reducible refine Kept.drew ?_ | (with_reducible refine Kept.set ?_ ?_; omega))

end Go.Proofs.YtgeedoeaepcmcaaGreatDoor
