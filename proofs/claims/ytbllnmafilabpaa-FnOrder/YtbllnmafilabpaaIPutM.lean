/- The program's bytes of a term: those of the model. -/
import Derived.Test.YtbllnmafilabpaaTPutSM
import Derived.Test.YtbllnmafilabpaaIOkM
import Derived.Test.YtbllnmafilabpaaTmM
namespace Go.Proofs.Ytbllnmafilabpaa
open Go.RowKit
set_option linter.unusedVariables false

/-- A kind that a term may have. -/
theorem shape_kind {k n : Int} {s : ByteArray} {len : Nat} (h : Shape k n s len) : k = 1 ∨ k = 2 ∨ k = 3 ∨ k = 4 ∨ k = 5 := by
  rcases h with h | h | h | h | h
  · exact .inl h.1
  · exact .inr (.inl h.1)
  · exact .inr (.inr (.inl h.1))
  · exact .inr (.inr (.inr (.inl h.1)))
  · exact .inr (.inr (.inr (.inr h.1)))

/-- The contract of the putting of the terms of a list. -/
def PartsC (d : Nat) : Prop := ∀ (w0 : World) (v : Value) (xs : List Int) (a : Option Addr) (c : Nat) (ts : List (Tm d)) (w : World), RdL d w0 (.slice a ts.length c) ts → WfL d ts → OkL d ts → Below w0.heap.size w0 w →
  w.ownsRow w0.heap.size 5 1 v xs.length (xs.map (Value.int .u8)) → xs.length + ((enc (code ts.length)).length + (encL d ts).length) ≤ 1000000000 →
  Calls Try.prog 30 #[v, .slice a ts.length c] w fun e w' => ∃ v', e = .returned v' ∧
    w'.ownsRow w0.heap.size 5 1 v' (xs ++ (enc (code ts.length) ++ encL d ts)).length ((xs ++ (enc (code ts.length) ++ encL d ts)).map (Value.int .u8)) ∧ Below w0.heap.size w w'

/-- The contract of the putting of a term. -/
def FormC (d : Nat) : Prop := ∀ (w0 : World) (v : Value) (xs : List Int) (k n : Int) (s : ByteArray) (a : Option Addr) (c : Nat) (ts : List (Tm d)) (w : World), RdL d w0 (.slice a ts.length c) ts → WfL d ts → OkL d ts → Below w0.heap.size w0 w →
  Shape k n s ts.length → I64 n → w.ownsRow w0.heap.size 5 1 v xs.length (xs.map (Value.int .u8)) → xs.length + (encT d k n s ts).length ≤ 1000000000 →
  Calls Try.prog 17 #[v, formV k n s (.slice a ts.length c)] w fun e w' => ∃ v', e = .returned v' ∧
    w'.ownsRow w0.heap.size 5 1 v' (xs ++ encT d k n s ts).length ((xs ++ encT d k n s ts).map (Value.int .u8)) ∧ Below w0.heap.size w w'

@[go_sem] theorem meth_intForm (v : Value) (w : World) : (method 224 59 v "loop.example/g00236/impl.kind").run Try.prog w = .ok (46, v) w := by kernel_rfl

theorem kind_intForm (v : Value) (w : World) : Calls Try.prog 46 #[v] w fun e w' => e = .returned (.int .i64 1) ∧ w = w' := by
  go_enter Try.func46, Try.ntmps46
  go_wp2
  go_ret
  exact ⟨rfl, rfl⟩

@[go_sem] theorem meth_atomForm (v : Value) (w : World) : (method 224 60 v "loop.example/g00236/impl.kind").run Try.prog w = .ok (47, v) w := by kernel_rfl

theorem kind_atomForm (v : Value) (w : World) : Calls Try.prog 47 #[v] w fun e w' => e = .returned (.int .i64 2) ∧ w = w' := by
  go_enter Try.func47, Try.ntmps47
  go_wp2
  go_ret
  exact ⟨rfl, rfl⟩

@[go_sem] theorem meth_pidForm (v : Value) (w : World) : (method 224 62 v "loop.example/g00236/impl.kind").run Try.prog w = .ok (48, v) w := by kernel_rfl

theorem kind_pidForm (v : Value) (w : World) : Calls Try.prog 48 #[v] w fun e w' => e = .returned (.int .i64 3) ∧ w = w' := by
  go_enter Try.func48, Try.ntmps48
  go_wp2
  go_ret
  exact ⟨rfl, rfl⟩

@[go_sem] theorem meth_tupleForm (v : Value) (w : World) : (method 224 63 v "loop.example/g00236/impl.kind").run Try.prog w = .ok (49, v) w := by kernel_rfl

theorem kind_tupleForm (v : Value) (w : World) : Calls Try.prog 49 #[v] w fun e w' => e = .returned (.int .i64 4) ∧ w = w' := by
  go_enter Try.func49, Try.ntmps49
  go_wp2
  go_ret
  exact ⟨rfl, rfl⟩

@[go_sem] theorem meth_listForm (v : Value) (w : World) : (method 224 65 v "loop.example/g00236/impl.kind").run Try.prog w = .ok (50, v) w := by kernel_rfl

theorem kind_listForm (v : Value) (w : World) : Calls Try.prog 50 #[v] w fun e w' => e = .returned (.int .i64 5) ∧ w = w' := by
  go_enter Try.func50, Try.ntmps50
  go_wp2
  go_ret
  exact ⟨rfl, rfl⟩

set_option maxHeartbeats 1000000 in
theorem form_1 (B : Nat) (v : Value) (xs : List Int) (n : Int) (wn : I64 n) (w : World) (hB : B ≤ w.heap.size) (hown : w.ownsRow B 5 1 v xs.length (xs.map (Value.int .u8))) (hl : xs.length + 12 ≤ 1073741824) :
    Calls Try.prog 17 #[v, .iface 59 (.int .i64 n)] w fun e w' => ∃ v', e = .returned v' ∧
      w'.ownsRow B 5 1 v' (xs ++ (enc (code 1) ++ enc (code n))).length ((xs ++ (enc (code 1) ++ enc (code n))).map (Value.int .u8)) ∧ Below B w w' := by
  go_enter Try.func17, Try.ntmps17
  go_wp2_with fail
  refine (kind_intForm _ w).mono ?_
  rintro e w' ⟨rfl, rfl⟩
  go_wp2_with fail
  refine (appendNums_one v xs B w.heap.size 0 1 1 _ (hown.alloc _) (by simp; omega) (by simp) (by omega) (by omega) (by omega)).mono ?_
  rintro e w1 ⟨v1, rfl, hown1, hbel1⟩
  have hb1 : Below B w w1 := ((Below.refl B w).alloc hB _).trans hbel1
  have hz1 : B ≤ w1.heap.size := Nat.le_trans hB hb1.size
  have hn1 : (xs ++ enc (code 1)).length ≤ 1073741824 := by have := num_len 1; rw [List.length_append]; omega
  obtain ⟨ys, hys⟩ : ∃ ys, xs ++ enc (code 1) = ys := ⟨_, rfl⟩
  have HYS : Hid (xs ++ enc (code 1) = ys) := hys
  rw [hys] at hown1 hn1
  clear hown hbel1 hys
  go_wp2_with fail
  refine (appendNums_one v1 ys B w1.heap.size 0 1 n _ (hown1.alloc _) (by simp; omega) (by simp) hn1 wn.1 wn.2).mono ?_
  rintro e w2 ⟨v2, rfl, hown2, hbel2⟩
  have HO : Hid (w2.ownsRow B 5 1 v2 (xs ++ (enc (code 1) ++ enc (code n))).length ((xs ++ (enc (code 1) ++ enc (code n))).map (Value.int .u8))) := by
    show World.ownsRow _ _ _ _ _ _ _
    rw [← List.append_assoc, HYS.out]
    exact hown2
  have hb2 : Below B w w2 := hb1.trans (((Below.refl B w1).alloc hz1 _).trans hbel2)
  clear hown1 hown2 hbel2 hb1
  go_wp2_with fail
  go_ret
  exact ⟨v2, rfl, HO.out, hb2⟩

set_option maxHeartbeats 1000000 in
theorem form_2 (B : Nat) (v : Value) (xs : List Int) (s : ByteArray) (hs : s.size ≤ 1073741824) (w : World) (hB : B ≤ w.heap.size) (hown : w.ownsRow B 5 1 v xs.length (xs.map (Value.int .u8))) (hl : xs.length + 12 ≤ 1073741824) :
    Calls Try.prog 17 #[v, .iface 60 (.string s)] w fun e w' => ∃ v', e = .returned v' ∧
      w'.ownsRow B 5 1 v' (xs ++ (enc (code 2) ++ put s)).length ((xs ++ (enc (code 2) ++ put s)).map (Value.int .u8)) ∧ Below B w w' := by
  go_enter Try.func17, Try.ntmps17
  go_wp2_with fail
  refine (kind_atomForm _ w).mono ?_
  rintro e w' ⟨rfl, rfl⟩
  go_wp2_with fail
  refine (appendNums_one v xs B w.heap.size 0 1 2 _ (hown.alloc _) (by simp; omega) (by simp) (by omega) (by omega) (by omega)).mono ?_
  rintro e w1 ⟨v1, rfl, hown1, hbel1⟩
  have hb1 : Below B w w1 := ((Below.refl B w).alloc hB _).trans hbel1
  have hz1 : B ≤ w1.heap.size := Nat.le_trans hB hb1.size
  have hn1 : (xs ++ enc (code 2)).length ≤ 1073741824 := by have := num_len 2; rw [List.length_append]; omega
  obtain ⟨ys, hys⟩ : ∃ ys, xs ++ enc (code 2) = ys := ⟨_, rfl⟩
  have HYS : Hid (xs ++ enc (code 2) = ys) := hys
  rw [hys] at hown1 hn1
  clear hown hbel1 hys
  go_wp2_with fail
  refine (appendTexts_one v1 ys B w1.heap.size 0 1 s _ (hown1.alloc _) (by simp; omega) (by simp) hn1 hs).mono ?_
  rintro e w2 ⟨v2, rfl, hown2, hbel2⟩
  have HO : Hid (w2.ownsRow B 5 1 v2 (xs ++ (enc (code 2) ++ put s)).length ((xs ++ (enc (code 2) ++ put s)).map (Value.int .u8))) := by
    show World.ownsRow _ _ _ _ _ _ _
    rw [← List.append_assoc, HYS.out]
    exact hown2
  have hb2 : Below B w w2 := hb1.trans (((Below.refl B w1).alloc hz1 _).trans hbel2)
  clear hown1 hown2 hbel2 hb1
  go_wp2_with fail
  go_ret
  exact ⟨v2, rfl, HO.out, hb2⟩

set_option maxHeartbeats 1000000 in
theorem form_3 (B : Nat) (v : Value) (xs : List Int) (n : Int) (wn : I64 n) (w : World) (hB : B ≤ w.heap.size) (hown : w.ownsRow B 5 1 v xs.length (xs.map (Value.int .u8))) (hl : xs.length + 12 ≤ 1073741824) :
    Calls Try.prog 17 #[v, .iface 62 (.int .i64 n)] w fun e w' => ∃ v', e = .returned v' ∧
      w'.ownsRow B 5 1 v' (xs ++ (enc (code 3) ++ enc (code n))).length ((xs ++ (enc (code 3) ++ enc (code n))).map (Value.int .u8)) ∧ Below B w w' := by
  go_enter Try.func17, Try.ntmps17
  go_wp2_with fail
  refine (kind_pidForm _ w).mono ?_
  rintro e w' ⟨rfl, rfl⟩
  go_wp2_with fail
  refine (appendNums_one v xs B w.heap.size 0 1 3 _ (hown.alloc _) (by simp; omega) (by simp) (by omega) (by omega) (by omega)).mono ?_
  rintro e w1 ⟨v1, rfl, hown1, hbel1⟩
  have hb1 : Below B w w1 := ((Below.refl B w).alloc hB _).trans hbel1
  have hz1 : B ≤ w1.heap.size := Nat.le_trans hB hb1.size
  have hn1 : (xs ++ enc (code 3)).length ≤ 1073741824 := by have := num_len 3; rw [List.length_append]; omega
  obtain ⟨ys, hys⟩ : ∃ ys, xs ++ enc (code 3) = ys := ⟨_, rfl⟩
  have HYS : Hid (xs ++ enc (code 3) = ys) := hys
  rw [hys] at hown1 hn1
  clear hown hbel1 hys
  go_wp2_with fail
  refine (appendNums_one v1 ys B w1.heap.size 0 1 n _ (hown1.alloc _) (by simp; omega) (by simp) hn1 wn.1 wn.2).mono ?_
  rintro e w2 ⟨v2, rfl, hown2, hbel2⟩
  have HO : Hid (w2.ownsRow B 5 1 v2 (xs ++ (enc (code 3) ++ enc (code n))).length ((xs ++ (enc (code 3) ++ enc (code n))).map (Value.int .u8))) := by
    show World.ownsRow _ _ _ _ _ _ _
    rw [← List.append_assoc, HYS.out]
    exact hown2
  have hb2 : Below B w w2 := hb1.trans (((Below.refl B w1).alloc hz1 _).trans hbel2)
  clear hown1 hown2 hbel2 hb1
  go_wp2_with fail
  go_ret
  exact ⟨v2, rfl, HO.out, hb2⟩

set_option maxHeartbeats 1000000 in
theorem form_4 (d : Nat) (H : PartsC d) (w0 : World) (v : Value) (xs : List Int) (a : Option Addr) (c : Nat) (ts : List (Tm d)) (w : World) (hr : RdL d w0 (.slice a ts.length c) ts) (hw : WfL d ts) (hok : OkL d ts) (hb0 : Below w0.heap.size w0 w)
    (hown : w.ownsRow w0.heap.size 5 1 v xs.length (xs.map (Value.int .u8))) (hl : xs.length + ((enc (code 4)).length + ((enc (code ts.length)).length + (encL d ts).length)) ≤ 1000000000) :
    Calls Try.prog 17 #[v, .iface 63 (.slice a ts.length c)] w fun e w' => ∃ v', e = .returned v' ∧
      w'.ownsRow w0.heap.size 5 1 v' (xs ++ (enc (code 4) ++ (enc (code ts.length) ++ encL d ts))).length ((xs ++ (enc (code 4) ++ (enc (code ts.length) ++ encL d ts))).map (Value.int .u8)) ∧ Below w0.heap.size w w' := by
  have hB := hb0.size
  obtain ⟨len, hlen⟩ : ∃ len, ts.length = len := ⟨_, rfl⟩
  obtain ⟨es, hes⟩ : ∃ es, enc (code ts.length) ++ encL d ts = es := ⟨_, rfl⟩
  have HP := fun v1 ys w1 => H w0 v1 ys a c ts w1 hr hw hok
  rw [hes] at HP ⊢
  rw [hlen] at HP hl ⊢
  clear hr hw hok H hes hlen
  go_enter Try.func17, Try.ntmps17
  go_wp2_with fail
  refine (kind_tupleForm _ w).mono ?_
  rintro e w' ⟨rfl, rfl⟩
  go_wp2_with fail
  refine (appendNums_one v xs w0.heap.size w.heap.size 0 1 4 _ (hown.alloc _) (by simp; omega) (by simp) (by omega) (by omega) (by omega)).mono ?_
  rintro e w1 ⟨v1, rfl, hown1, hbel1⟩
  have hb1 : Below w0.heap.size w w1 := ((Below.refl w0.heap.size w).alloc hB _).trans hbel1
  have hn1 : (xs ++ enc (code 4)).length + ((enc (code len)).length + (encL d ts).length) ≤ 1000000000 := by rw [List.length_append]; omega
  obtain ⟨ys, hys⟩ : ∃ ys, xs ++ enc (code 4) = ys := ⟨_, rfl⟩
  have HYS : Hid (xs ++ enc (code 4) = ys) := hys
  rw [hys] at hown1 hn1
  have hC := HP v1 ys w1 (hb0.trans hb1) hown1 hn1
  clear hown hbel1 hys HP hn1 hown1
  go_wp2_with fail
  refine hC.mono ?_
  clear hC
  rintro e w2 ⟨v2, rfl, hown2, hbel2⟩
  have HO : Hid (w2.ownsRow w0.heap.size 5 1 v2 (xs ++ (enc (code 4) ++ es)).length ((xs ++ (enc (code 4) ++ es)).map (Value.int .u8))) := by
    show World.ownsRow _ _ _ _ _ _ _
    rw [← List.append_assoc, HYS.out]
    exact hown2
  have hb2 : Below w0.heap.size w w2 := hb1.trans hbel2
  clear hown2 hbel2 hb1
  go_wp2_with fail
  go_ret
  exact ⟨v2, rfl, HO.out, hb2⟩

set_option maxHeartbeats 1000000 in
theorem form_5 (d : Nat) (H : PartsC d) (w0 : World) (v : Value) (xs : List Int) (a : Option Addr) (c : Nat) (ts : List (Tm d)) (w : World) (hr : RdL d w0 (.slice a ts.length c) ts) (hw : WfL d ts) (hok : OkL d ts) (hb0 : Below w0.heap.size w0 w)
    (hown : w.ownsRow w0.heap.size 5 1 v xs.length (xs.map (Value.int .u8))) (hl : xs.length + ((enc (code 5)).length + ((enc (code ts.length)).length + (encL d ts).length)) ≤ 1000000000) :
    Calls Try.prog 17 #[v, .iface 65 (.slice a ts.length c)] w fun e w' => ∃ v', e = .returned v' ∧
      w'.ownsRow w0.heap.size 5 1 v' (xs ++ (enc (code 5) ++ (enc (code ts.length) ++ encL d ts))).length ((xs ++ (enc (code 5) ++ (enc (code ts.length) ++ encL d ts))).map (Value.int .u8)) ∧ Below w0.heap.size w w' := by
  have hB := hb0.size
  obtain ⟨len, hlen⟩ : ∃ len, ts.length = len := ⟨_, rfl⟩
  obtain ⟨es, hes⟩ : ∃ es, enc (code ts.length) ++ encL d ts = es := ⟨_, rfl⟩
  have HP := fun v1 ys w1 => H w0 v1 ys a c ts w1 hr hw hok
  rw [hes] at HP ⊢
  rw [hlen] at HP hl ⊢
  clear hr hw hok H hes hlen
  go_enter Try.func17, Try.ntmps17
  go_wp2_with fail
  refine (kind_listForm _ w).mono ?_
  rintro e w' ⟨rfl, rfl⟩
  go_wp2_with fail
  refine (appendNums_one v xs w0.heap.size w.heap.size 0 1 5 _ (hown.alloc _) (by simp; omega) (by simp) (by omega) (by omega) (by omega)).mono ?_
  rintro e w1 ⟨v1, rfl, hown1, hbel1⟩
  have hb1 : Below w0.heap.size w w1 := ((Below.refl w0.heap.size w).alloc hB _).trans hbel1
  have hn1 : (xs ++ enc (code 5)).length + ((enc (code len)).length + (encL d ts).length) ≤ 1000000000 := by rw [List.length_append]; omega
  obtain ⟨ys, hys⟩ : ∃ ys, xs ++ enc (code 5) = ys := ⟨_, rfl⟩
  have HYS : Hid (xs ++ enc (code 5) = ys) := hys
  rw [hys] at hown1 hn1
  have hC := HP v1 ys w1 (hb0.trans hb1) hown1 hn1
  clear hown hbel1 hys HP hn1 hown1
  go_wp2_with fail
  refine hC.mono ?_
  clear hC
  rintro e w2 ⟨v2, rfl, hown2, hbel2⟩
  have HO : Hid (w2.ownsRow w0.heap.size 5 1 v2 (xs ++ (enc (code 5) ++ es)).length ((xs ++ (enc (code 5) ++ es)).map (Value.int .u8))) := by
    show World.ownsRow _ _ _ _ _ _ _
    rw [← List.append_assoc, HYS.out]
    exact hown2
  have hb2 : Below w0.heap.size w w2 := hb1.trans hbel2
  clear hown2 hbel2 hb1
  go_wp2_with fail
  go_ret
  exact ⟨v2, rfl, HO.out, hb2⟩

/-- The putting of a term, over that of a list. -/
theorem form_of (d : Nat) (H : PartsC d) : FormC d := by
  intro w0 v xs k n s a c ts w hr hw hok hb0 hsh wn hown hl
  have hB := hb0.size
  rcases shape_kind hsh with rfl | rfl | rfl | rfl | rfl
  · exact form_1 w0.heap.size v xs n wn w hB hown (by omega)
  · refine form_2 w0.heap.size v xs s ?_ w hB hown (by omega)
    have := (shape2 _ _ _).1 hsh
    have := this.1.2.2
    omega
  · exact form_3 w0.heap.size v xs n wn w hB hown (by omega)
  · refine form_4 d H w0 v xs a c ts w hr hw hok hb0 hown ?_
    have : (encT d 4 n s ts).length = (enc (code 4) ++ (enc (code ts.length) ++ encL d ts)).length := rfl
    rw [List.length_append, List.length_append] at this
    omega
  · refine form_5 d H w0 v xs a c ts w hr hw hok hb0 hown ?_
    have : (encT d 5 n s ts).length = (enc (code 5) ++ (enc (code ts.length) ++ encL d ts)).length := rfl
    rw [List.length_append, List.length_append] at this
    omega

/-- What is owned stays so where only new blocks come. -/
theorem ownsRow_later {w w' : World} {B n : Nat} {v : Value} {xs : List Value} (h : w.ownsRow B 5 1 v n xs) (hb : Below w.heap.size w w') : w'.ownsRow B 5 1 v n xs := by
  obtain ⟨h1, h2⟩ := h
  refine ⟨h1, ?_⟩
  rcases h2 with h2 | ⟨g, c, cur, e1, e2, e3, e4⟩
  · exact .inl h2
  · exact .inr ⟨g, c, cur, e1, e2, (hb.block g (Nat.lt_of_not_le fun hn => by rw [Array.getElem?_eq_none hn] at e3; cases e3)).trans e3, e4⟩

set_option maxHeartbeats 1000000 in
theorem parts_any : ∀ d, PartsC d := by
  intro d
  induction d with
  | zero =>
    intro w0 v xs a c ts w hr hw hok hb0 hown hl
    have hz : ts.length = 0 := by
      cases ts with
      | nil => rfl
      | cons t _ => exact Empty.elim t
    have hB := hb0.size
    have HE0 : Hid (encL 0 ts = []) := rfl
    have hl' : xs.length + 6 ≤ 1073741824 := by omega
    rw [hz]
    clear hr hw hok hl
    go_enter Try.func30, Try.ntmps30
    go_wp2_with fail
    refine (appendNums_one v xs w0.heap.size w.heap.size 0 1 0 _ (hown.alloc _) (by simp; omega) (by simp) (by omega) (by omega) (by omega)).mono ?_
    rintro e w1 ⟨v1, rfl, hown1, hbel1⟩
    have hb1 : Below w0.heap.size w w1 := ((Below.refl w0.heap.size w).alloc hB _).trans hbel1
    have HR : Hid (w1.ownsRow w0.heap.size 5 1 v1 (xs ++ (enc (code ((0 : Nat) : Int)) ++ encL 0 ts)).length ((xs ++ (enc (code ((0 : Nat) : Int)) ++ encL 0 ts)).map (Value.int .u8))) := by
      rw [HE0.out, List.append_nil]; exact hown1
    clear hown hbel1 hown1 HE0
    go_wp2_with fail
    refine wp_loop_rounds 1 ?_
    rw [rounds_succ]
    go_wp2_with fail
    go_ret
    exact ⟨_, rfl, HR.out, hb1⟩
  | succ d ih =>
    intro w0 v xs a c ts w hr hw hok hb0 hown hl
    have HI : Hid (FormC d) := form_of d ih
    obtain ⟨a', c', e', hel⟩ := hr
    obtain ⟨rfl, rfl⟩ : a = a' ∧ c = c' := by simpa using e'
    have hln := hw.len
    have HE : Hid (∀ (i : Nat) (t : Tm (d + 1)), ts[i]? = some t → ∃ b o lv, a = some ⟨b, o, none⟩ ∧ Four w0 b (o + i * 4) t.K t.N t.S lv ∧ RdL d w0 lv t.L) := hel
    have HWF : Hid (WfL (d + 1) ts) := hw
    have HOK : Hid (OkL (d + 1) ts) := hok
    have hB := hb0.size
    obtain ⟨len, hlen⟩ : ∃ len, ts.length = len := ⟨_, rfl⟩
    have HL : Hid (ts.length = len) := hlen
    rw [hlen] at hln hl ⊢
    clear hel hw hok hlen ih e'
    go_enter Try.func30, Try.ntmps30
    go_wp2_with fail
    refine (appendNums_one v xs w0.heap.size w.heap.size 0 1 len _ (hown.alloc _) (by simp; omega) (by simp) (by omega) (by omega) (by omega)).mono ?_
    rintro e w1 ⟨v1, rfl, hown1, hbel1⟩
    have hb1 : Below w0.heap.size w w1 := ((Below.refl w0.heap.size w).alloc hB _).trans hbel1
    obtain ⟨ys, hys⟩ : ∃ ys, xs ++ enc (code len) = ys := ⟨_, rfl⟩
    have HYS : Hid (xs ++ enc (code len) = ys) := hys
    have hn1 : ys.length + (encL (d + 1) ts).length ≤ 1000000000 := by rw [← hys, List.length_append]; omega
    rw [hys] at hown1
    clear hown hbel1 hys
    go_wp2_with fail
    go_loopw [0, 14] (fun x i wr => ∃ j : Nat, j ≤ len ∧ i = .int .i64 j ∧ Hid (wr.ownsRow w0.heap.size 5 1 x (ys ++ encP d ts j).length ((ys ++ encP d ts j).map (Value.int .u8))) ∧ Hid (Below w0.heap.size w wr)) (fun _ i _ => len - (intOf i).toNat)
    case atStart => exact ⟨0, Nat.zero_le _, rfl, by rw [show encP d ts 0 = [] from rfl, List.append_nil]; exact hown1, hb1⟩
    case round =>
      obtain ⟨j, hj, rfl, HO, HB⟩ := hrel
      have hbw : Below w0.heap.size w0 wr := hb0.trans HB.out
      by_cases hjl : j < len
      · obtain ⟨t, ht⟩ : ∃ t, ts[j]? = some t := ⟨_, List.getElem?_eq_getElem (by rw [HL.out]; exact hjl)⟩
        obtain ⟨b1, o1, lv1, rfl, F1, L1⟩ := HE.out j t ht
        obtain ⟨a2, c2, hlv⟩ := L1.len
        subst hlv
        obtain ⟨_, hwn, hst, hwt⟩ := HWF.out.2 t (List.mem_of_getElem? ht)
        obtain ⟨hsh, hokt⟩ := HOK.out t (List.mem_of_getElem? ht)
        obtain ⟨f0, f1, f2, f3⟩ := F1.later hbw
        have hstep := encP_succ d ts j t ht
        have hple := encP_le d ts (j + 1)
        rw [hstep, List.length_append] at hple
        obtain ⟨l2, hl2⟩ : ∃ l2, t.L.length = l2 := ⟨_, rfl⟩
        have hC : ∀ x X, Below wr.heap.size wr X → wr.ownsRow w0.heap.size 5 1 x (ys ++ encP d ts j).length ((ys ++ encP d ts j).map (Value.int .u8)) → Calls Try.prog 17 #[x, formV t.K t.N t.S (.slice a2 l2 c2)] X fun e w' => ∃ v', e = .returned v' ∧
            Hid (w'.ownsRow w0.heap.size 5 1 v' (ys ++ encP d ts (j + 1)).length ((ys ++ encP d ts (j + 1)).map (Value.int .u8))) ∧ Hid (Below w0.heap.size w w') := fun x X hX hO => by
          rw [← hl2]
          refine (HI.out w0 x (ys ++ encP d ts j) t.K t.N t.S a2 c2 t.L X L1 hwt hokt (hbw.trans (hX.mono hbw.size)) hsh hwn (ownsRow_later hO hX) (by rw [List.length_append]; omega)).mono ?_
          rintro e w' ⟨v', rfl, q1, q2⟩
          refine ⟨v', rfl, ?_, HB.out.trans ((hX.mono hbw.size).trans q2)⟩
          rw [hstep, ← List.append_assoc]
          exact q1
        have hjl' : (j : Int) < (len : Int) := by omega
        have HOO : Hid _ := HO.out
        rw [hl2] at f3
        clear F1 L1 hwt hst ht HO hsh hokt hstep hple HE HWF HOK HI hwn hl2
        go_wp2_with fail
        refine (formOf_any _ _ _ _ _ _ _).mono ?_
        rintro e X ⟨rfl, hX⟩
        have hX2 : Below wr.heap.size wr X := ((Below.refl wr.heap.size wr).alloc (Nat.le_refl _) _).trans (hX.mono (by simp))
        clear hX f0 f1 f2 f3
        go_wp2_with fail
        refine (hC _ X hX2 HOO.out).mono ?_
        clear hC
        rintro e w' ⟨v', rfl, q1, q2⟩
        clear HOO HB hbw
        go_wp2_with fail
        go_roundw
        case rel => exact ⟨j + 1, by omega, by go_num, q1, q2⟩
        case measure => simp [intOf]; omega
      · have hall := encP_all d ts j (by have := HL.out; omega)
        have HF : ∀ x, Hid (wr.ownsRow w0.heap.size 5 1 x (ys ++ encP d ts j).length ((ys ++ encP d ts j).map (Value.int .u8))) → Hid (wr.ownsRow w0.heap.size 5 1 x (xs ++ (enc (code len) ++ encL (d + 1) ts)).length ((xs ++ (enc (code len) ++ encL (d + 1) ts)).map (Value.int .u8))) := fun x h => by
          rw [← List.append_assoc, HYS.out, ← hall]
          exact h
        have HR := HF _ HO
        clear HF hall HO HE HWF HOK HI
        go_wp2_with fail
        go_ret
        exact ⟨_, rfl, HR.out, HB.out⟩

theorem owns_some {w : World} {B n : Nat} {v : Value} {xs : List Value} (h : w.ownsRow B 5 1 v n xs) (hn : 0 < n) : ∃ g c, v = .slice (some ⟨g, 0, none⟩) n c := by
  rcases h.2 with ⟨_, h2⟩ | ⟨g, c, cur, e1, _⟩
  · omega
  · exact ⟨g, c, e1⟩

set_option maxHeartbeats 1000000 in
/-- The program's bytes of a term: none of a term that isn't right. -/
theorem putTerm_any (d : Nat) (k n : Int) (s : ByteArray) (l : Value) (ts : List (Tm d)) (w : World) (hr : RdL d w l ts) (hw : WfL d ts) (wk : I64 k) (wn : I64 n) (hs : s.size ≤ 9223372036854775807) :
    Calls Try.prog 7 #[.agg #[.int .i64 k, .int .i64 n, .string s, l]] w fun e w' => ∃ v, e = .returned v ∧
      ((Right d k n s ts 8 300 ∧ w'.ownsRow w.heap.size 5 1 v (encT d k n s ts).length ((encT d k n s ts).map (Value.int .u8))) ∨ (¬ Right d k n s ts 8 300 ∧ v = .slice none 0 0)) ∧ Below w.heap.size w w' := by
  obtain ⟨a, c, e⟩ := hr.len
  obtain ⟨W, hW⟩ : ∃ W, W = w.alloc (.cells #[.int .i64 k, .int .i64 n, .string s, l] 26) := ⟨_, rfl⟩
  have hA : Below w.heap.size w W := by rw [hW]; exact (Below.refl _ _).alloc (Nat.le_refl _) _
  have hC := termOk_any d k n s l ts W (hr.later hA) hw hs
  have hB1 : W.heap[w.heap.size]? = some (.cells #[.int .i64 k, .int .i64 n, .string s, l] 26 (0, 0)) := by rw [hW]; exact heap_alloc_new w _
  have hWz : W.heap.size = w.heap.size + 1 := by rw [hW]; simp
  have HW : Hid (W = _) := hW
  have HR : Hid (RdL d w l ts) := hr
  have HWF : Hid (WfL d ts) := hw
  rw [hW] at hC
  rw [e] at hC hW HW hB1 HR ⊢
  clear hr hW hw
  go_enter Try.func7, Try.ntmps7
  go_wp2_with fail
  refine hC.mono ?_
  clear hC
  rintro e1 w1 ⟨b, rfl, hb, hB⟩
  rw [← HW.out] at hB
  have hb1 : Below w.heap.size w w1 := hA.trans (hB.mono hA.size)
  have hh1 : w1.heap[w.heap.size]? = _ := (hB.block _ (by omega)).trans hB1
  have q0 : w1.cell? ⟨w.heap.size, 0, none⟩ = some (.int .i64 k) := by rw [cell_of_row w1 _ 0 _ _ _ hh1]; rfl
  have q1 : w1.cell? ⟨w.heap.size, 1, none⟩ = some (.int .i64 n) := by rw [cell_of_row w1 _ 1 _ _ _ hh1]; rfl
  have q2 : w1.cell? ⟨w.heap.size, 2, none⟩ = some (.string s) := by rw [cell_of_row w1 _ 2 _ _ _ hh1]; rfl
  have q3 : w1.cell? ⟨w.heap.size, 3, none⟩ = some (.slice a ts.length c) := by rw [cell_of_row w1 _ 3 _ _ _ hh1]; rfl
  clear hB hh1 hA hB1 hWz HW
  cases b
  · have HN : Hid (¬ Right d k n s ts 8 300) := fun h => by have := hb.2 h; cases this
    clear hb
    go_wp2_with fail
    go_ret
    exact ⟨_, rfl, .inr ⟨HN.out, rfl⟩, hb1⟩
  · have HN : Hid (Right d k n s ts 8 300) := hb.1 rfl
    have hC : ∀ X, Below w1.heap.size w1 X → Calls Try.prog 17 #[.slice none 0 0, formV k n s (.slice a ts.length c)] X fun e w' => ∃ v', e = .returned v' ∧ Hid (w'.ownsRow w.heap.size 5 1 v' (encT d k n s ts).length ((encT d k n s ts).map (Value.int .u8))) ∧ Hid (Below w.heap.size w w') := fun X hX => by
      have hx : Below w.heap.size w X := hb1.trans (hX.mono hb1.size)
      refine (form_of d (parts_any d) w (.slice none 0 0) [] k n s a c ts X HR.out HWF.out HN.out.2.1 hx HN.out.1 wn ⟨rfl, .inl ⟨rfl, rfl⟩⟩ ?_).mono ?_
      · have := right_len HN.out; show 0 + _ ≤ _; omega
      · rintro e w' ⟨v', rfl, q1, q2⟩
        exact ⟨v', rfl, q1, hx.trans q2⟩
    clear hb
    go_wp2_with fail
    refine (formOf_any _ _ _ _ _ _ _).mono ?_
    rintro e X ⟨rfl, hX⟩
    clear q0 q1 q2 q3
    go_wp2_with fail
    refine (hC X hX).mono ?_
    clear hC
    rintro e w' ⟨v', rfl, p1, p2⟩
    go_wp2_with fail
    go_ret
    exact ⟨_, rfl, .inl ⟨HN.out, p1.out⟩, p2.out⟩

end Go.Proofs.Ytbllnmafilabpaa

/- What the law's own looks and marks come to at rows that may be nil, and at terms. -/
namespace Go.Proofs.Ytbllnmafilabpaa
open Go.RowKit
set_option linter.unusedVariables false

theorem owns_cases {w : World} {B n : Nat} {v : Value} {xs : List Value} (h : w.ownsRow B 5 1 v n xs) : (v = .slice none 0 0 ∧ n = 0) ∨ ∃ g c, v = .slice (some ⟨g, 0, none⟩) n c ∧ B ≤ g := by
  rcases h.2 with ⟨h1, h2⟩ | ⟨g, c, cur, e1, e2, _⟩
  · exact .inl ⟨h1, h2⟩
  · exact .inr ⟨g, c, e1, e2⟩

theorem ownsRow_wrote {w w' : World} {B n : Nat} {v : Value} {xs : List Value} {fp : List Nat} (h : w.ownsRow B 5 1 v n xs) (hb : Wrote fp w w') (hf : ∀ g ∈ fp, g < B) : w'.ownsRow B 5 1 v n xs := by
  obtain ⟨h1, h2⟩ := h
  refine ⟨h1, ?_⟩
  rcases h2 with h2 | ⟨g, c, cur, e1, e2, e3, e4⟩
  · exact .inl h2
  · exact .inr ⟨g, c, cur, e1, e2, (hb.block g (Nat.lt_of_not_le fun hn => by rw [Array.getElem?_eq_none hn] at e3; cases e3) (fun hg => by have := hf g hg; omega)).trans e3, e4⟩

theorem ownsRow_under {w w' : World} {B C n : Nat} {v : Value} {xs : List Value} (h : w.ownsRow B 5 1 v n xs) (hc : ∀ g, w.ownsRow B 5 1 v n xs → (∃ c, v = .slice (some ⟨g, 0, none⟩) n c) → g < C) (hb : Below C w w') : w'.ownsRow B 5 1 v n xs := by
  have h0 := h
  obtain ⟨h1, h2⟩ := h
  refine ⟨h1, ?_⟩
  rcases h2 with h2 | ⟨g, c, cur, e1, e2, e3, e4⟩
  · exact .inl h2
  · exact .inr ⟨g, c, cur, e1, e2, (hb.block g (hc g h0 ⟨c, e1⟩)).trans e3, e4⟩

theorem lt_of_row {w : World} {g : Nat} {o : Obj} (h : w.heap[g]? = some o) : g < w.heap.size := Nat.lt_of_not_le fun hn => by rw [Array.getElem?_eq_none hn] at h; cases h

theorem ownsRow_at {w w' : World} {B n g c : Nat} {v : Value} {xs : List Value} (h : w.ownsRow B 5 1 v n xs) (hv : v = .slice (some ⟨g, 0, none⟩) n c) (hb : w'.heap[g]? = w.heap[g]?) : w'.ownsRow B 5 1 v n xs := by
  obtain ⟨h1, h2⟩ := h
  refine ⟨h1, ?_⟩
  rcases h2 with h2 | ⟨g', c', cur, e1, e2, e3, e4⟩
  · exact .inl h2
  · have e5 := e1
    rw [hv] at e5
    simp only [Value.slice.injEq, Option.some.injEq, Addr.mk.injEq, and_true, true_and] at e5
    obtain ⟨rfl, rfl⟩ := e5
    exact .inr ⟨g, c, cur, e1, e2, hb.trans e3, e4⟩

end Go.Proofs.Ytbllnmafilabpaa
