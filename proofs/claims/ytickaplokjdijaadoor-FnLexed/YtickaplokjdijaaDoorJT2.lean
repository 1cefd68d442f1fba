/- Tokens joined: the model's and the program's. -/
import Derived.Test.YtickaplokjdijaaDoorJT
namespace Go.Proofs.YtickaplokjdijaaDoor
open Go.RowKit
set_option linter.unusedVariables false

/-- What the first j tokens are joined to. -/
def JoinP (ts : List Tk) : Nat → ByteArray → Prop
  | 0, x => x = ⟨#[]⟩
  | j + 1, x => ∃ (y r : ByteArray) (t : Tk), ts[j]? = some t ∧ JoinP ts j y ∧ TxtP t.1 t.2.1 t.2.2 r ∧ x = (if 0 < j then y ++ ⟨#[32]⟩ else y) ++ r

theorem JoinP.same {ts : List Tk} : ∀ {j : Nat} {x x' : ByteArray}, JoinP ts j x → JoinP ts j x' → x = x'
  | 0, _, _, h, h' => Eq.trans h (Eq.symm h')
  | j + 1, _, _, ⟨y, r, t, h1, h2, h3, h4⟩, ⟨y', r', t', g1, g2, g3, g4⟩ => by
    rw [h1] at g1
    obtain rfl := Option.some.inj g1
    obtain rfl := JoinP.same h2 g2
    obtain rfl := h3.same g3
    rw [h4, g4]

theorem TxtP.size {k n : Int} {s r : ByteArray} (h : TxtP k n s r) : r.size ≤ 19 + s.size := by
  rcases h with ⟨h1, rfl⟩ | ⟨h1, rfl⟩
  · unfold ttext
    split
    · have := intText_size n; omega
    · omega
  · exact Nat.zero_le _

theorem JoinP.size {ts : List Tk} : ∀ {j : Nat} {x : ByteArray}, JoinP ts j x → x.size ≤ 20 * j + sP ts j
  | 0, x, h => by
    have h : x = ⟨#[]⟩ := h
    rw [h]; exact Nat.zero_le _
  | j + 1, _, ⟨y, r, t, h1, h2, h3, h4⟩ => by
    have i1 := JoinP.size h2
    have i2 := h3.size
    have i3 := sP_succ ts j t h1
    rw [h4, ByteArray.size_append]
    have i4 : (if 0 < j then y ++ (⟨#[32]⟩ : ByteArray) else y).size ≤ y.size + 1 := by
      split
      · rw [ByteArray.size_append]; exact Nat.le_refl _
      · omega
    omega

theorem joinP_next {ts : List Tk} {j : Nat} {y r : ByteArray} {t : Tk} (h1 : ts[j]? = some t) (h2 : JoinP ts j y) (h3 : TxtP t.1 t.2.1 t.2.2 r) : (0 < j → JoinP ts (j + 1) ((y ++ ⟨#[32]⟩) ++ r)) ∧ (¬ 0 < j → JoinP ts (j + 1) (y ++ r)) :=
  ⟨fun h => ⟨y, r, t, h1, h2, h3, by rw [if_pos h]⟩, fun h => ⟨y, r, t, h1, h2, h3, by rw [if_neg h]⟩⟩

set_option maxHeartbeats 2000000 in
theorem specJoin_any (a : Option Addr) (c : Nat) (ts : List Tk) (w : World) (hr : RdO w a ts) (hw : WfK ts) (hm : ts.length + sP ts ts.length ≤ 1048576) :
    Calls Tryd.prog 26 #[.slice a ts.length c] w fun e w' => ∃ x, e = .returned (.string x) ∧ Hid (JoinP ts ts.length x) ∧ Below w.heap.size w w' := by
  have HE : Hid (RdO w a ts) := hr
  have HW : Hid (WfK ts) := hw
  have HSZ : Hid (∀ j x, j ≤ ts.length → JoinP ts j x → x.size ≤ 30000000) := fun j x hj h => by have h1 := h.size; have h2 := sP_le ts j; omega
  have HTZ : Hid (∀ (j : Nat) (t : Tk), ts[j]? = some t → t.2.2.size ≤ 1048576) := fun j t ht => by have h1 := sP_succ ts j t ht; have h2 := sP_le ts (j + 1); omega
  obtain ⟨len, hlen⟩ : ∃ len, ts.length = len := ⟨_, rfl⟩
  have HLN : Hid (ts.length = len) := hlen
  rw [hlen] at hm HSZ ⊢
  have hlb : len ≤ 1048576 := by omega
  clear hlen hr hw hm
  go_enter Tryd.func26, Tryd.ntmps26
  go_wp2_with fail
  go_loopw [3, 4] (fun x i wr => ∃ (j : Nat) (y : ByteArray), j ≤ len ∧ i = .int .i64 j ∧ x = .string y ∧ y.size ≤ 30000000 ∧ Hid (JoinP ts j y) ∧ Below w.heap.size w wr) (fun _ i _ => len - (intOf i).toNat)
  case atStart => exact ⟨0, ⟨#[]⟩, Nat.zero_le _, rfl, rfl, Nat.zero_le _, rfl, Below.refl _ _⟩
  case round =>
    obtain ⟨j, y, hj, rfl, rfl, hys, HJ, hb⟩ := hrel
    by_cases hjl : j < len
    · obtain ⟨t, ht⟩ : ∃ t, ts[j]? = some t := ⟨_, List.getElem?_eq_getElem (by rw [HLN.out]; exact hjl)⟩
      obtain ⟨b, o, rfl, f0, f1, f2⟩ := HE.out j t ht
      have f0 := cell_later hb f0
      have f1 := cell_later hb f1
      have f2 := cell_later hb f2
      have htz := HTZ.out j t ht
      have hC := specTokenText_any t.1 t.2.1 t.2.2 wr (by omega)
      have HN : Hid (∀ r, TxtP t.1 t.2.1 t.2.2 r → r.size ≤ 2000000 ∧ (0 < j → JoinP ts (j + 1) ((y ++ ⟨#[32]⟩) ++ r)) ∧ (¬ 0 < j → JoinP ts (j + 1) (y ++ r))) := fun r hr => ⟨by have := hr.size; omega, joinP_next ht HJ.out hr⟩
      have hjl' : (j : Int) < (len : Int) := by omega
      clear ht HJ htz
      by_cases hj0 : 0 < j
      · have hp1 : (y ++ (⟨#[32]⟩ : ByteArray)).size ≤ 30000001 := by rw [ByteArray.size_append]; show _ + 1 ≤ _; omega
        go_wp2_with fail
        refine hC.mono ?_
        clear hC
        rintro e V ⟨r, rfl, hr, hB⟩
        obtain ⟨hrs, hr1, _⟩ := HN.out r hr.out
        have HNX : Hid (JoinP ts (j + 1) ((y ++ ⟨#[32]⟩) ++ r)) := hr1 hj0
        have hzz := HSZ.out (j + 1) _ (by omega) HNX.out
        have hb2 : Below w.heap.size w V := hb.trans (hB.mono hb.size)
        clear hb hB f0 f1 f2 hr hr1 HN
        go_wp2
        go_roundw
        case rel => exact ⟨j + 1, _, by omega, by go_num, rfl, hzz, HNX, hb2⟩
        case measure => simp [intOf]; omega
      · go_wp2_with fail
        refine hC.mono ?_
        clear hC
        rintro e V ⟨r, rfl, hr, hB⟩
        obtain ⟨hrs, _, hr1⟩ := HN.out r hr.out
        have HNX : Hid (JoinP ts (j + 1) (y ++ r)) := hr1 hj0
        have hzz := HSZ.out (j + 1) _ (by omega) HNX.out
        have hb2 : Below w.heap.size w V := hb.trans (hB.mono hb.size)
        clear hb hB f0 f1 f2 hr hr1 HN
        go_wp2
        go_roundw
        case rel => exact ⟨j + 1, _, by omega, by go_num, rfl, hzz, HNX, hb2⟩
        case measure => simp [intOf]; omega
    · have hjn : j = len := by omega
      subst hjn
      go_wp2
      go_ret
      exact ⟨y, rfl, HJ, hb⟩

set_option maxHeartbeats 4000000 in
theorem join_any (a : Option Addr) (c : Nat) (ts : List Tk) (w : World) (hr : RdO w a ts) (hw : WfK ts) (hm : ts.length + sP ts ts.length ≤ 1048576) (ht : TabOk w) :
    Calls Tryd.prog 11 #[.slice a ts.length c] w fun e w' => ∃ x, e = .returned (.string x) ∧ Hid (JoinP ts ts.length x) ∧ Below w.heap.size w w' := by
  have HE : Hid (RdO w a ts) := hr
  have HW : Hid (WfK ts) := hw
  have HT : Hid (TabOk w) := ht
  have HSZ : Hid (∀ j x, j ≤ ts.length → JoinP ts j x → x.size ≤ 30000000) := fun j x hj h => by have h1 := h.size; have h2 := sP_le ts j; omega
  have HTZ : Hid (∀ (j : Nat) (t : Tk), ts[j]? = some t → t.2.2.size ≤ 1048576) := fun j t ht => by have h1 := sP_succ ts j t ht; have h2 := sP_le ts (j + 1); omega
  obtain ⟨len, hlen⟩ : ∃ len, ts.length = len := ⟨_, rfl⟩
  have HLN : Hid (ts.length = len) := hlen
  rw [hlen] at hm HSZ ⊢
  have hlb : len ≤ 1048576 := by omega
  have hB0 : Bd w w.heap.size [] (w.alloc (.cells #[.pointer none, .slice none 0 0] 62)) := ⟨Lib.IsBuilderF.of (Lib.fresh_isBuilder _ 5 w), (Below.refl _ _).alloc (Nat.le_refl _) _⟩
  have HB0 : Hid (Bd w w.heap.size [] (w.alloc (.cells #[.pointer none, .slice none 0 0] 62))) := hB0
  clear hlen hr hw hm ht hB0
  go_enter Tryd.func11, Tryd.ntmps11
  go_wp2_with fail
  go_loopw [8] (fun i wr => ∃ (j : Nat) (y : ByteArray), j ≤ len ∧ i = .int .i64 j ∧ Hid (JoinP ts j y) ∧ Hid (Bd w w.heap.size y.data.toList wr)) (fun i _ => len - (intOf i).toNat)
  case atStart => exact ⟨0, ⟨#[]⟩, Nat.zero_le _, rfl, rfl, HB0⟩
  case round =>
    obtain ⟨j, y, hj, rfl, HJ, HB⟩ := hrel
    have hbw : Below w.heap.size w wr := HB.out.2
    have hys := HSZ.out j y hj HJ.out
    by_cases hjl : j < len
    · obtain ⟨t, ht⟩ : ∃ t, ts[j]? = some t := ⟨_, List.getElem?_eq_getElem (by rw [HLN.out]; exact hjl)⟩
      obtain ⟨b, o, rfl, f0, f1, f2⟩ := HE.out j t ht
      have f0 := cell_later hbw f0
      have f1 := cell_later hbw f1
      have f2 := cell_later hbw f2
      have htz := HTZ.out j t ht
      have HN : Hid (∀ r, TxtP t.1 t.2.1 t.2.2 r → r.size ≤ 2000000 ∧ (0 < j → JoinP ts (j + 1) ((y ++ ⟨#[32]⟩) ++ r)) ∧ (¬ 0 < j → JoinP ts (j + 1) (y ++ r))) := fun r hr => ⟨by have := hr.size; omega, joinP_next ht HJ.out hr⟩
      obtain ⟨W, hW⟩ : ∃ W, W = wr.alloc (.cells #[.int .i64 t.1, .int .i64 t.2.1, .string t.2.2] 31) := ⟨_, rfl⟩
      have hwW : Below wr.heap.size wr W := by rw [hW]; exact (Below.refl _ _).alloc (Nat.le_refl _) _
      have hbox : W.heap[wr.heap.size]? = some (.cells #[.int .i64 t.1, .int .i64 t.2.1, .string t.2.2] 31 (0, 0)) := by rw [hW]; exact heap_alloc_new wr _
      have HBW : Hid (Bd w w.heap.size y.data.toList W) := HB.out.later hwW
      have hbne : wr.heap.size ≠ w.heap.size := fun e => by
        have : w.heap.size < wr.heap.size := by
          rcases HB.out.1 with ⟨_, v, q1, _⟩ | ⟨_, v, q1, _⟩ <;> exact (Array.getElem?_eq_some_iff.1 q1).1
        omega
      have HWW : Hid (W = _) := hW
      have hjl' : (j : Int) < (len : Int) := by omega
      have hyl : y.data.toList.length ≤ 30000000 := by rw [← Lib.size_eq]; exact hys
      have HTX : Hid (∀ X : World, Below w.heap.size w X → Calls Tryd.prog 13 #[.agg #[.int .i64 t.1, .int .i64 t.2.1, .string t.2.2]] X fun e w' => ∃ r, e = .returned (.string r) ∧ Hid (TxtP t.1 t.2.1 t.2.2 r) ∧ Below X.heap.size X w') := fun X hX => tokenText_any t.1 t.2.1 t.2.2 X (by omega) (HT.out.later hX)
      clear ht HJ htz HB
      by_cases hj0 : 0 < j
      · have hWs := write_any w w.heap.size _ ⟨#[32]⟩ W HBW.out (by show _ + 1 ≤ _; omega)
        have hbj : decide ((0 : Int) < j) = true := by simp; omega
        rw [hW] at hWs
        clear hW HBW
        go_wp2_with fail
        refine hWs.mono ?_
        clear hWs
        rintro e w2 ⟨rfl, BDC, hbk⟩
        rw [← HWW.out] at hbk
        have hbox2 := hbk.out _ _ _ _ hbne (by decide) hbox
        have HQ : Hid (w2.heap[wr.heap.size]? = some (.cells #[.int .i64 t.1, .int .i64 t.2.1, .string t.2.2] 31 (0, 0))) := hbox2
        have c0 : w2.cell? ⟨wr.heap.size, 0, none⟩ = some (.int .i64 t.1) := by rw [cell_of_row w2 _ 0 _ _ _ HQ.out]; rfl
        have c1 : w2.cell? ⟨wr.heap.size, 1, none⟩ = some (.int .i64 t.2.1) := by rw [cell_of_row w2 _ 1 _ _ _ HQ.out]; rfl
        have c2 : w2.cell? ⟨wr.heap.size, 2, none⟩ = some (.string t.2.2) := by rw [cell_of_row w2 _ 2 _ _ _ HQ.out]; rfl
        have hC := HTX.out w2 BDC.out.2
        clear hbk hbox hbox2 HWW hwW f0 f1 f2 HQ
        go_wp2_with fail
        refine hC.mono ?_
        clear hC c0 c1 c2
        rintro e X ⟨r, rfl, hr, hX⟩
        obtain ⟨hrs, hrA, hrB⟩ := HN.out r hr.out
        have HNX : Hid (JoinP ts (j + 1) ((y ++ ⟨#[32]⟩) ++ r)) := hrA hj0
        have hBX := BDC.out.later hX
        have hWs := write_any w _ _ r X hBX (by rw [List.length_append, show (⟨#[32]⟩ : ByteArray).data.toList.length = 1 from rfl]; omega)
        clear hX hr HN hrA hrB hBX
        go_wp2_with fail
        refine hWs.mono ?_
        clear hWs
        rintro e w3 ⟨rfl, HB3, _⟩
        have HB4 : Hid (Bd w w.heap.size ((y ++ ⟨#[32]⟩) ++ r).data.toList w3) := by rw [ba_append, ba_append]; exact HB3
        clear HB3
        go_wp2_with fail
        go_roundw
        case rel => exact ⟨j + 1, _, by omega, by go_num, HNX, HB4⟩
        case measure => simp [intOf]; omega
      · have hbj : decide ((0 : Int) < j) = false := by simp; omega
        have hC := HTX.out W (hbw.trans (hwW.mono hbw.size))
        have BDC : Hid (Bd w w.heap.size y.data.toList W) := HBW
        rw [hW] at hC BDC
        have c0 := True.intro
        have c1 := True.intro
        have c2 := True.intro
        clear hW HBW HWW hbox hwW
        go_wp2_with fail
        refine hC.mono ?_
        clear hC c0 c1 c2
        rintro e X ⟨r, rfl, hr, hX⟩
        obtain ⟨hrs, hrA, hrB⟩ := HN.out r hr.out
        have HNX : Hid (JoinP ts (j + 1) (y ++ r)) := hrB hj0
        have hBX := BDC.out.later hX
        have hWs := write_any w _ _ r X hBX (by rw [← Lib.size_eq]; omega)
        clear hX hr HN hrA hrB hBX
        go_wp2_with fail
        refine hWs.mono ?_
        clear hWs
        rintro e w3 ⟨rfl, HB3, _⟩
        have HB4 : Hid (Bd w w.heap.size (y ++ r).data.toList w3) := by rw [ba_append]; exact HB3
        clear HB3
        go_wp2_with fail
        go_roundw
        case rel => exact ⟨j + 1, _, by omega, by go_num, HNX, HB4⟩
        case measure => simp [intOf]; omega
    · have hjn : j = len := by omega
      subst hjn
      have hS := Tryd.Builder_String_any_k w.heap.size w.heap.size y.data.toList wr HB.out.1 hbw.size
      rw [show (⟨y.data.toList.toArray⟩ : ByteArray) = y from rfl] at hS
      have hbl : decide ((j : Int) < j) = false := by simp
      clear HB HE HW
      go_wp2_with fail
      refine hS.mono ?_
      clear hS
      rintro e Z ⟨rfl, _, hZ, _⟩
      have hbZ : Below w.heap.size w Z := hbw.trans hZ
      clear hbw hZ
      go_wp2_with fail
      go_ret
      exact ⟨y, rfl, HJ, hbZ⟩

set_option maxHeartbeats 1000000 in
theorem eqTok_any (k n : Int) (s : ByteArray) (w : World) :
    Calls Tryd.prog 54 #[.agg #[.int .i64 k, .int .i64 n, .string s], .agg #[.int .i64 k, .int .i64 n, .string s]] w fun e w' => e = .returned (.bool true) ∧ Below w.heap.size w w' := by
  have hA : Below w.heap.size w ((w.alloc (.cells #[.int .i64 k, .int .i64 n, .string s] 31)).alloc (.cells #[.int .i64 k, .int .i64 n, .string s] 31)) := ((Below.refl _ _).alloc (Nat.le_refl _) _).alloc (by simp) _
  go_enter Tryd.func54, Tryd.ntmps54
  go_wp2
  go_ret
  exact ⟨rfl, hA⟩

set_option maxHeartbeats 1000000 in
theorem eqToks_any (a1 a2 : Option Addr) (c1 c2 : Nat) (ts : List Tk) (w : World) (h1 : RdO w a1 ts) (h2 : RdO w a2 ts) (hm : ts.length ≤ 1048576) :
    Calls Tryd.prog 28 #[.slice a1 ts.length c1, .slice a2 ts.length c2] w fun e w' => e = .returned (.bool true) ∧ Below w.heap.size w w' := by
  have HE1 : Hid (RdO w a1 ts) := h1
  have HE2 : Hid (RdO w a2 ts) := h2
  obtain ⟨len, hlen⟩ : ∃ len, ts.length = len := ⟨_, rfl⟩
  have HLN : Hid (ts.length = len) := hlen
  rw [hlen] at hm ⊢
  clear hlen h1 h2
  go_enter Tryd.func28, Tryd.ntmps28
  go_wp2_with fail
  go_loopw [5] (fun i wr => ∃ k : Nat, k ≤ len ∧ i = .int .i64 k ∧ Below w.heap.size w wr) (fun i _ => len - (intOf i).toNat)
  case atStart => exact ⟨0, Nat.zero_le _, rfl, Below.refl _ _⟩
  case round =>
    obtain ⟨k, hk, rfl, hb⟩ := hrel
    by_cases hkl : k < len
    · obtain ⟨t, ht⟩ : ∃ t, ts[k]? = some t := ⟨_, List.getElem?_eq_getElem (by rw [HLN.out]; exact hkl)⟩
      obtain ⟨b1, o1, rfl, f0, f1, f2⟩ := HE1.out k t ht
      obtain ⟨b2, o2, rfl, g0, g1, g2⟩ := HE2.out k t ht
      have f0 := cell_later hb f0
      have f1 := cell_later hb f1
      have f2 := cell_later hb f2
      have g0 := cell_later hb g0
      have g1 := cell_later hb g1
      have g2 := cell_later hb g2
      have hkl' : (k : Int) < (len : Int) := by omega
      have HC : Hid (∀ W : World, Calls Tryd.prog 54 #[.agg #[.int .i64 t.1, .int .i64 t.2.1, .string t.2.2], .agg #[.int .i64 t.1, .int .i64 t.2.1, .string t.2.2]] W fun e w' => e = .returned (.bool true) ∧ Below W.heap.size W w') :=
        fun W => eqTok_any t.1 t.2.1 t.2.2 W
      go_wp2_with fail
      go_region_with (go_at_call 54; refine (HC.out _).mono ?_; rintro e W ⟨rfl, hB⟩)
      all_goals
        have hb2 : Below w.heap.size w W := hb.drew.trans (hB.mono hb.drew.size)
        clear hb hB
        go_wp2
        go_roundw
        case rel => exact ⟨k + 1, by omega, by go_num, hb2⟩
        case measure => simp [intOf]; omega
    · go_wp2
      go_ret
      exact ⟨rfl, hb⟩

end Go.Proofs.YtickaplokjdijaaDoor
