/- The bytes of a term, and that the model's putting of it makes them. -/
import Derived.Test.YthjmbbpakidkdaaCntM
import Derived.Test.YthjmbbpakidkdaaPutM
namespace Go.Proofs.Ythjmbbpakidkdaa
open Go.RowKit
set_option linter.unusedVariables false

/-- What is put behind a term's kind. -/
def bodyE (k n : Int) (s : ByteArray) (len : Nat) (rest : List Int) : List Int :=
  if k = 1 ∨ k = 3 then enc (code n) else if k = 2 then put s else enc (code len) ++ rest

/-- The bytes of the terms of a list, one behind the other. -/
def encL : (d : Nat) → List (Tm d) → List Int
  | 0, _ => []
  | d + 1, ts => ts.flatMap fun t => enc (code t.K) ++ bodyE t.K t.N t.S t.L.length (encL d t.L)

/-- The bytes of a term. -/
def encT (d : Nat) (k n : Int) (s : ByteArray) (ts : List (Tm d)) : List Int := enc (code k) ++ bodyE k n s ts.length (encL d ts)

def encP (d : Nat) (ts : List (Tm (d + 1))) (j : Nat) : List Int := (ts.take j).flatMap fun t => enc (code t.K) ++ bodyE t.K t.N t.S t.L.length (encL d t.L)

theorem encP_succ (d : Nat) (ts : List (Tm (d + 1))) (j : Nat) (t : Tm (d + 1)) (h : ts[j]? = some t) : encP d ts (j + 1) = encP d ts j ++ encT d t.K t.N t.S t.L := by
  have hl := (List.getElem?_eq_some_iff.1 h).1
  have he := (List.getElem?_eq_some_iff.1 h).2
  unfold encP
  rw [List.take_succ_eq_append_getElem hl, he]
  simp [encT]
theorem encP_all (d : Nat) (ts : List (Tm (d + 1))) (j : Nat) (h : ts.length ≤ j) : encP d ts j = encL (d + 1) ts := by
  unfold encP; rw [List.take_of_length_le h]; rfl
theorem encP_le (d : Nat) (ts : List (Tm (d + 1))) (j : Nat) : (encP d ts j).length ≤ (encL (d + 1) ts).length := by
  show _ ≤ (ts.flatMap _).length
  unfold encP
  conv => rhs; rw [← List.take_append_drop j ts]
  rw [List.flatMap_append, List.length_append]
  omega

/-- The contract of the putting of a term behind bytes. -/
def PutC (f d : Nat) : Prop := ∀ (g m cap : Nat) (zs : List Int) (k n : Int) (s : ByteArray) (l : Value) (ts : List (Tm d)) (w : World), zs.length = m → g < w.heap.size → (∀ i, i < m → w.cell? ⟨g, 0 + i, none⟩ = some (.int .u8 (zs.getD i 0))) →
  RdL d w l ts → WfL d ts → I64 k → I64 n → s.size ≤ 9223372036854775807 → m + (encT d k n s ts).length ≤ 1073741824 →
  Calls Try.prog f #[.slice (some ⟨g, 0, none⟩) m cap, .agg #[.int .i64 k, .int .i64 n, .string s, l]] w fun e w' => ∃ g' c', e = .returned (.slice (some ⟨g', 0, none⟩) (zs ++ encT d k n s ts).length c') ∧
    w'.ownsRow w.heap.size 5 1 (.slice (some ⟨g', 0, none⟩) (zs ++ encT d k n s ts).length c') (zs ++ encT d k n s ts).length ((zs ++ encT d k n s ts).map (Value.int .u8)) ∧ Below w.heap.size w w'

theorem bodyE_len (n : Int) (s : ByteArray) : (put s).length = (enc (code s.size)).length + s.size := by rw [put, List.length_append, nums_length]

set_option maxHeartbeats 1000000 in
/-- What is put of a term without a look at what is in it. -/
theorem specPut_leaf (d : Nat) (g m cap : Nat) (zs : List Int) (k n : Int) (s : ByteArray) (a : Option Addr) (len c : Nat) (ts : List (Tm d)) (w : World) (hz : zs.length = m) (hg : g < w.heap.size) (hc : ∀ i, i < m → w.cell? ⟨g, 0 + i, none⟩ = some (.int .u8 (zs.getD i 0)))
    (wk : I64 k) (wn : I64 n) (hs : s.size ≤ 9223372036854775807) (hb : m + (encT d k n s ts).length ≤ 1073741824) (h : k = 1 ∨ k = 3 ∨ k = 2) :
    Calls Try.prog 128 #[.slice (some ⟨g, 0, none⟩) m cap, .agg #[.int .i64 k, .int .i64 n, .string s, .slice a len c]] w fun e w' => ∃ g' c', e = .returned (.slice (some ⟨g', 0, none⟩) (zs ++ encT d k n s ts).length c') ∧
      w'.ownsRow w.heap.size 5 1 (.slice (some ⟨g', 0, none⟩) (zs ++ encT d k n s ts).length c') (zs ++ encT d k n s ts).length ((zs ++ encT d k n s ts).map (Value.int .u8)) ∧ Below w.heap.size w w' := by
  obtain ⟨W, hW⟩ : ∃ W, W = w.alloc (.cells #[.int .i64 k, .int .i64 n, .string s, .slice a len c] 26) := ⟨_, rfl⟩
  have hA : Below w.heap.size w W := by rw [hW]; exact (Below.refl _ _).alloc (Nat.le_refl _) _
  have hWz : W.heap.size = w.heap.size + 1 := by rw [hW]; simp
  have hB1 : W.heap[w.heap.size]? = some (.cells #[.int .i64 k, .int .i64 n, .string s, .slice a len c] 26 (0, 0)) := by rw [hW]; exact heap_alloc_new w _
  obtain ⟨A, hAA⟩ : ∃ A, zs ++ enc (code k) = A := ⟨_, rfl⟩
  obtain ⟨p, hp⟩ : ∃ p, A.length = p := ⟨_, rfl⟩
  have hpb : p ≤ 1073741824 := by rw [← hp, ← hAA, List.length_append]; rw [encT, List.length_append] at hb; omega
  have hC := specPutNum_row g 0 m cap zs k W hz (by omega) (by omega) (fun i hi => cell_later hA (hc i hi)) wk.1 wk.2 A hAA p hp
  have HAA : Hid (zs ++ enc (code k) = A) := hAA
  have HP : Hid (A.length = p) := hp
  have HB1 : Hid (W.heap[w.heap.size]? = _) := hB1
  rw [hW] at hC
  have HW : Hid (W = _) := hW
  by_cases h2 : k = 2
  · have HE : Hid (zs ++ encT d k n s ts = A ++ put s) := by show _ = _; rw [encT, bodyE, if_neg (by omega), if_pos h2, ← hAA, List.append_assoc]
    obtain ⟨ys, hys⟩ : ∃ ys, A ++ put s = ys := ⟨_, rfl⟩
    obtain ⟨L, hL⟩ : ∃ L, ys.length = L := ⟨_, rfl⟩
    have hss : s.size ≤ 1073741824 := by rw [encT, bodyE, if_neg (by omega), if_pos h2, List.length_append, bodyE_len n s] at hb; omega
    have HYS : Hid (A ++ put s = ys) := hys
    have HLL : Hid (ys.length = L) := hL
    rw [HE.out, hys, hL]
    have g1 : (k == 1) = false := by simp; omega
    have g3 : (k == 3) = false := by simp; omega
    have g2 : (k == 2) = true := by simp [h2]
    clear h h2 hW hAA hp hys hL hB1 hc hb
    go_enter Try.func128, Try.ntmps128
    go_wp2_with fail
    refine hC.mono ?_
    clear hC
    rintro e w1 ⟨g1', c1', rfl, hg1, own1, bel1⟩
    rw [← HW.out] at hg1 own1 bel1
    have hh1 : w1.heap[w.heap.size]? = _ := (bel1.block _ (by omega)).trans HB1.out
    have q0 : w1.cell? ⟨w.heap.size, 0, none⟩ = some (.int .i64 k) := by rw [cell_of_row w1 _ 0 _ _ _ hh1]; rfl
    have q2 : w1.cell? ⟨w.heap.size, 2, none⟩ = some (.string s) := by rw [cell_of_row w1 _ 2 _ _ _ hh1]; rfl
    have hb1 : Below w.heap.size w w1 := hA.trans (bel1.mono hA.size)
    have hC2 := specPutText_row g1' 0 p c1' A s w1 HP.out (by omega) (own_lt own1) (own_cells own1) hss ys HYS.out L HLL.out
    clear own1 bel1 hh1 HW
    go_wp2_with fail
    refine hC2.mono ?_
    clear hC2
    rintro e w2 ⟨g2', c2', rfl, hg2, own2, bel2⟩
    have hb2 : Below w.heap.size w w2 := hb1.trans (bel2.mono hb1.size)
    have own3 := own_weak own2 hb1.size
    clear own2 bel2 q0 q2
    go_wp2_with fail
    go_ret
    exact ⟨g2', c2', rfl, own3, hb2⟩
  · have h13 : k = 1 ∨ k = 3 := by omega
    have HE : Hid (zs ++ encT d k n s ts = A ++ enc (code n)) := by show _ = _; rw [encT, bodyE, if_pos h13, ← hAA, List.append_assoc]
    obtain ⟨ys, hys⟩ : ∃ ys, A ++ enc (code n) = ys := ⟨_, rfl⟩
    obtain ⟨L, hL⟩ : ∃ L, ys.length = L := ⟨_, rfl⟩
    have HYS : Hid (A ++ enc (code n) = ys) := hys
    have HLL : Hid (ys.length = L) := hL
    rw [HE.out, hys, hL]
    have h13' : (k == 1) = true ∨ ((k == 1) = false ∧ (k == 3) = true) := by
      rcases h13 with h | h
      · exact .inl (by simp [h])
      · exact .inr ⟨by simp [h], by simp [h]⟩
    clear h h2 hW hAA hp hys hL hB1 hc hb h13
    rcases h13' with g1 | ⟨g1, g3⟩
    all_goals
      go_enter Try.func128, Try.ntmps128
      go_wp2_with fail
      refine hC.mono ?_
      clear hC
      rintro e w1 ⟨g1', c1', rfl, hg1, own1, bel1⟩
      rw [← HW.out] at hg1 own1 bel1
      have hh1 : w1.heap[w.heap.size]? = _ := (bel1.block _ (by omega)).trans HB1.out
      have q0 : w1.cell? ⟨w.heap.size, 0, none⟩ = some (.int .i64 k) := by rw [cell_of_row w1 _ 0 _ _ _ hh1]; rfl
      have q1 : w1.cell? ⟨w.heap.size, 1, none⟩ = some (.int .i64 n) := by rw [cell_of_row w1 _ 1 _ _ _ hh1]; rfl
      have hb1 : Below w.heap.size w w1 := hA.trans (bel1.mono hA.size)
      have hC2 := specPutNum_row g1' 0 p c1' A n w1 HP.out (by omega) (own_lt own1) (own_cells own1) wn.1 wn.2 ys HYS.out L HLL.out
      clear own1 bel1 hh1 HW
      go_wp2_with fail
      refine hC2.mono ?_
      clear hC2
      rintro e w2 ⟨g2', c2', rfl, hg2, own2, bel2⟩
      have hb2 : Below w.heap.size w w2 := hb1.trans (bel2.mono hb1.size)
      have own3 := own_weak own2 hb1.size
      clear own2 bel2 q0 q1
      go_wp2_with fail
      go_ret
      exact ⟨g2', c2', rfl, own3, hb2⟩

theorem encT_list {d : Nat} {k n : Int} {s : ByteArray} {ts : List (Tm d)} (h : ¬(k = 1 ∨ k = 3 ∨ k = 2)) : encT d k n s ts = enc (code k) ++ (enc (code ts.length) ++ encL d ts) := by
  rw [encT, bodyE, if_neg (by omega), if_neg (by omega)]

set_option maxHeartbeats 2000000 in
/-- The model's putting of a term. -/
theorem specPutT_any : ∀ d, PutC 128 d := by
  intro d
  induction d with
  | zero =>
    intro g m cap zs k n s l ts w hz hg hc hr hw wk wn hs hb
    obtain ⟨a, c, rfl⟩ := hr.len
    by_cases h : k = 1 ∨ k = 3 ∨ k = 2
    · exact specPut_leaf 0 g m cap zs k n s a _ c ts w hz hg hc wk wn hs hb h
    have hz0 : ts.length = 0 := by
      cases ts with
      | nil => rfl
      | cons t _ => exact Empty.elim t
    obtain ⟨W, hW⟩ : ∃ W, W = w.alloc (.cells #[.int .i64 k, .int .i64 n, .string s, .slice a 0 c] 26) := ⟨_, rfl⟩
    have hA : Below w.heap.size w W := by rw [hW]; exact (Below.refl _ _).alloc (Nat.le_refl _) _
    have hWz : W.heap.size = w.heap.size + 1 := by rw [hW]; simp
    have hB1 : W.heap[w.heap.size]? = some (.cells #[.int .i64 k, .int .i64 n, .string s, .slice a 0 c] 26 (0, 0)) := by rw [hW]; exact heap_alloc_new w _
    obtain ⟨A, hAA⟩ : ∃ A, zs ++ enc (code k) = A := ⟨_, rfl⟩
    obtain ⟨p, hp⟩ : ∃ p, A.length = p := ⟨_, rfl⟩
    have hpb : p ≤ 1073741824 := by rw [← hp, ← hAA, List.length_append]; rw [encT, List.length_append] at hb; omega
    have hC := specPutNum_row g 0 m cap zs k W hz (by omega) (by omega) (fun i hi => cell_later hA (hc i hi)) wk.1 wk.2 A hAA p hp
    have HP : Hid (A.length = p) := hp
    have HB1 : Hid (W.heap[w.heap.size]? = _) := hB1
    rw [hW] at hC
    have HW : Hid (W = _) := hW
    have HE : Hid (zs ++ encT 0 k n s ts = A ++ enc (code (0 : Int))) := by
      show _ = _
      rw [encT_list h, ← hAA, List.append_assoc, hz0]
      show _ = zs ++ (enc (code k) ++ enc (code (0 : Int)))
      simp [encL]
    obtain ⟨ys, hys⟩ : ∃ ys, A ++ enc (code (0 : Int)) = ys := ⟨_, rfl⟩
    obtain ⟨L, hL⟩ : ∃ L, ys.length = L := ⟨_, rfl⟩
    have HYS : Hid (A ++ enc (code (0 : Int)) = ys) := hys
    have HLL : Hid (ys.length = L) := hL
    rw [HE.out, hys, hL, hz0]
    have g1 : (k == 1) = false := by simp; omega
    have g3 : (k == 3) = false := by simp; omega
    have g2 : (k == 2) = false := by simp; omega
    clear h hW hAA hp hys hL hB1 hc hb hz0
    go_enter Try.func128, Try.ntmps128
    go_wp2_with fail
    refine hC.mono ?_
    clear hC
    rintro e w1 ⟨g1', c1', rfl, hg1, own1, bel1⟩
    rw [← HW.out] at hg1 own1 bel1
    have hh1 : w1.heap[w.heap.size]? = _ := (bel1.block _ (by omega)).trans HB1.out
    have q0 : w1.cell? ⟨w.heap.size, 0, none⟩ = some (.int .i64 k) := by rw [cell_of_row w1 _ 0 _ _ _ hh1]; rfl
    have q3 : w1.cell? ⟨w.heap.size, 3, none⟩ = some (.slice a 0 c) := by rw [cell_of_row w1 _ 3 _ _ _ hh1]; rfl
    have hb1 : Below w.heap.size w w1 := hA.trans (bel1.mono hA.size)
    have hC2 := specPutNum_row g1' 0 p c1' A 0 w1 HP.out (by omega) (own_lt own1) (own_cells own1) (by omega) (by omega) ys HYS.out L HLL.out
    have hwz : w.heap.size < w1.heap.size := by have := bel1.size; omega
    clear own1 bel1 hh1 HW
    go_wp2_with fail
    refine hC2.mono ?_
    clear hC2
    rintro e w2 ⟨g2', c2', rfl, hg2, own2, bel2⟩
    have hb2 : Below w.heap.size w w2 := hb1.trans (bel2.mono hb1.size)
    have own3 := own_weak own2 hb1.size
    have r3 : w2.cell? ⟨w.heap.size, 3, none⟩ = some (.slice a 0 c) := cell_later bel2 q3
    clear own2 bel2 q0 q3
    go_wp2_with fail
    refine wp_loop_rounds 1 ?_
    rw [rounds_succ]
    go_wp2
    go_ret
    exact ⟨g2', c2', rfl, own3, hb2⟩
  | succ d ih =>
    intro g m cap zs k n s l ts w hz hg hc hr hw wk wn hs hb
    by_cases h : k = 1 ∨ k = 3 ∨ k = 2
    · obtain ⟨a, c, rfl⟩ := hr.len
      exact specPut_leaf (d + 1) g m cap zs k n s a _ c ts w hz hg hc wk wn hs hb h
    obtain ⟨a, c, rfl, hel⟩ := hr
    have HE : Hid (∀ (i : Nat) (t : Tm (d + 1)), ts[i]? = some t → ∃ b o lv, a = some ⟨b, o, none⟩ ∧ Four w b (o + i * 4) t.K t.N t.S lv ∧ RdL d w lv t.L) := hel
    have HWF : Hid (WfL (d + 1) ts) := hw
    have hln : ts.length ≤ 9223372036854775807 := hw.1
    obtain ⟨len, hl⟩ : ∃ len, ts.length = len := ⟨_, rfl⟩
    have HL : Hid (ts.length = len) := hl
    obtain ⟨W, hW⟩ : ∃ W, W = w.alloc (.cells #[.int .i64 k, .int .i64 n, .string s, .slice a len c] 26) := ⟨_, rfl⟩
    have hA : Below w.heap.size w W := by rw [hW]; exact (Below.refl _ _).alloc (Nat.le_refl _) _
    have hWz : W.heap.size = w.heap.size + 1 := by rw [hW]; simp
    have hB1 : W.heap[w.heap.size]? = some (.cells #[.int .i64 k, .int .i64 n, .string s, .slice a len c] 26 (0, 0)) := by rw [hW]; exact heap_alloc_new w _
    obtain ⟨A, hAA⟩ : ∃ A, zs ++ enc (code k) = A := ⟨_, rfl⟩
    obtain ⟨p, hp⟩ : ∃ p, A.length = p := ⟨_, rfl⟩
    obtain ⟨ys, hys⟩ : ∃ ys, A ++ enc (code (len : Int)) = ys := ⟨_, rfl⟩
    obtain ⟨L, hL⟩ : ∃ L, ys.length = L := ⟨_, rfl⟩
    have HEE : Hid (zs ++ encT (d + 1) k n s ts = ys ++ encL (d + 1) ts) := by
      show _ = _
      rw [encT_list h, ← hys, ← hAA, hl, List.append_assoc, List.append_assoc]
    have hbL : Hid (L + (encL (d + 1) ts).length ≤ 1073741824) := by
      show _ ≤ _
      rw [← hL, ← hys, ← hAA, List.length_append, List.length_append]
      rw [encT_list h, List.length_append, List.length_append, hl] at hb
      omega
    have hpb : p ≤ 1073741824 := by rw [← hp, ← hAA, List.length_append]; rw [encT, List.length_append] at hb; omega
    have hC := specPutNum_row g 0 m cap zs k W hz (by omega) (by omega) (fun i hi => cell_later hA (hc i hi)) wk.1 wk.2 A hAA p hp
    have HP : Hid (A.length = p) := hp
    have HB1 : Hid (W.heap[w.heap.size]? = _) := hB1
    rw [hW] at hC
    have HW : Hid (W = _) := hW
    have HYS : Hid (A ++ enc (code (len : Int)) = ys) := hys
    have HLL : Hid (ys.length = L) := hL
    have HI : Hid (PutC 128 d) := ih
    rw [HEE.out, hl]
    rw [hl] at hln
    have g1 : (k == 1) = false := by simp; omega
    have g3 : (k == 3) = false := by simp; omega
    have g2 : (k == 2) = false := by simp; omega
    clear h hW hAA hp hys hL hB1 hc hb hl ih hel hw
    go_enter Try.func128, Try.ntmps128
    go_wp2_with fail
    refine hC.mono ?_
    clear hC
    rintro e w1 ⟨g1', c1', rfl, hg1, own1, bel1⟩
    rw [← HW.out] at hg1 own1 bel1
    have hh1 : w1.heap[w.heap.size]? = _ := (bel1.block _ (by omega)).trans HB1.out
    have q0 : w1.cell? ⟨w.heap.size, 0, none⟩ = some (.int .i64 k) := by rw [cell_of_row w1 _ 0 _ _ _ hh1]; rfl
    have q3 : w1.cell? ⟨w.heap.size, 3, none⟩ = some (.slice a len c) := by rw [cell_of_row w1 _ 3 _ _ _ hh1]; rfl
    have hb1 : Below w.heap.size w w1 := hA.trans (bel1.mono hA.size)
    have hC2 := specPutNum_row g1' 0 p c1' A (len : Int) w1 HP.out (by omega) (own_lt own1) (own_cells own1) (by omega) (by omega) ys HYS.out L HLL.out
    have hwz : w.heap.size < w1.heap.size := by have := bel1.size; omega
    clear own1 bel1 hh1 HW
    go_wp2_with fail
    refine hC2.mono ?_
    clear hC2
    rintro e w2 ⟨g2', c2', rfl, hg2, own2, bel2⟩
    have hb2 : Below w.heap.size w w2 := hb1.trans (bel2.mono hb1.size)
    have hwz2 : w.heap.size < w2.heap.size := by have := bel2.size; omega
    have HO : Hid (w2.ownsRow w.heap.size 5 1 (.slice (some ⟨g2', 0, none⟩) L c2') L (ys.map (Value.int .u8))) := own_weak own2 hb1.size
    have r3 : w2.cell? ⟨w.heap.size, 3, none⟩ = some (.slice a len c) := cell_later bel2 q3
    clear own2 bel2 q0 q3
    go_wp2_with fail
    go_loopw [0, 5] (fun x i wr => ∃ (j g' c' M : Nat), j ≤ len ∧ i = .int .i64 j ∧ x = .slice (some ⟨g', 0, none⟩) M c' ∧ Below w2.heap.size w2 wr ∧ Hid (M = (ys ++ encP d ts j).length ∧ wr.ownsRow w.heap.size 5 1 (.slice (some ⟨g', 0, none⟩) M c') M ((ys ++ encP d ts j).map (Value.int .u8)))) (fun _ i _ => len - (intOf i).toNat)
    case atStart => exact ⟨0, g2', c2', L, Nat.zero_le _, rfl, rfl, Below.refl _ _, ⟨by simp [encP, HLL.out], by simpa [encP] using HO.out⟩⟩
    case round =>
      obtain ⟨j, g', c', M, hj, rfl, rfl, hb, HS⟩ := hrel
      have c1 : wr.cell? ⟨w.heap.size, 3, none⟩ = some (.slice a len c) := cell_later hb r3
      have hbw : Below w.heap.size w wr := hb2.trans (hb.mono hb2.size)
      by_cases hjl : j < len
      · obtain ⟨t, ht⟩ : ∃ t, ts[j]? = some t := ⟨_, List.getElem?_eq_getElem (by rw [HL.out]; exact hjl)⟩
        obtain ⟨b1, o1, lv1, rfl, F1, L1⟩ := HE.out j t ht
        obtain ⟨wkt, wnt, hst, hwt⟩ := HWF.out.2 t (List.mem_of_getElem? ht)
        obtain ⟨f0, f1, f2, f3⟩ := F1.later hbw
        have hstep := encP_succ d ts j t ht
        have hle := encP_le d ts (j + 1)
        have hC := HI.out g' M c' (ys ++ encP d ts j) t.K t.N t.S lv1 t.L wr HS.out.1.symm (own_lt HS.out.2) (own_cells HS.out.2) (L1.later hbw) hwt wkt wnt hst (by
          have := hbL.out; have := HS.out.1; have := HLL.out
          rw [hstep, List.length_append] at hle; rw [List.length_append] at *; omega)
        rw [List.append_assoc, ← hstep] at hC
        obtain ⟨M', hM'⟩ : ∃ M', (ys ++ encP d ts (j + 1)).length = M' := ⟨_, rfl⟩
        have HM' : Hid (_ = M') := hM'
        rw [hM'] at hC
        have hjl' : (j : Int) < (len : Int) := by omega
        clear F1 L1 hwt hst ht wkt wnt hstep hle hM'
        go_wp2_with fail
        refine hC.mono ?_
        clear hC
        rintro e V ⟨g3', c3', rfl, hO, hB⟩
        have HO3 : Hid (V.ownsRow w.heap.size 5 1 _ _ _) := own_weak hO hbw.size
        have hb3 : Below w2.heap.size w2 V := hb.trans (hB.mono hb.size)
        clear hb hB f0 f1 f2 f3 c1 hO HS
        go_wp2
        go_roundw
        case rel => exact ⟨j + 1, g3', c3', M', by omega, by go_num, rfl, hb3, ⟨HM'.out.symm, HO3.out⟩⟩
        case measure => simp [intOf]; omega
      · have hall := encP_all d ts j (by have := HL.out; omega)
        have HF : Hid (M = (ys ++ encL (d + 1) ts).length ∧ wr.ownsRow w.heap.size 5 1 (.slice (some ⟨g', 0, none⟩) M c') M ((ys ++ encL (d + 1) ts).map (Value.int .u8))) := by rw [← hall]; exact HS.out
        clear hb hall HS HI
        go_wp2
        go_ret
        obtain ⟨rfl, hO⟩ := HF.out
        exact ⟨g', c', rfl, hO, hbw⟩

theorem num_len (n : Int) : (enc (code n)).length ≤ 6 := enc_len6 _ (by have := code_bd n; omega)

theorem body_len {d : Nat} {k n : Int} {s : ByteArray} {ts : List (Tm d)} (h : Shape k n s ts.length) (hl : (encL d ts).length ≤ 64 * cntL d ts) : (encT d k n s ts).length ≤ 64 * (1 + cntL d ts) := by
  have h1 := num_len k
  have h2 := num_len n
  have h3 := num_len ts.length
  have h4 := num_len s.size
  have hs : s.size ≤ 20 := by
    rcases h with h | h | h | h | h
    · omega
    · exact h.2.1.2.2
    · omega
    · omega
    · omega
  rw [encT, List.length_append, bodyE]
  split
  · omega
  · split
    · rw [bodyE_len n s]; omega
    · rw [List.length_append]; omega

theorem encL_len : ∀ (d : Nat) (ts : List (Tm d)), OkL d ts → (encL d ts).length ≤ 64 * cntL d ts := by
  intro d
  induction d with
  | zero => intro ts _; exact Nat.zero_le _
  | succ d ih =>
    intro ts
    induction ts with
    | nil => intro _; exact Nat.zero_le _
    | cons t r ihr =>
      intro h
      obtain ⟨h1, h2⟩ := h t (List.mem_cons_self ..)
      have h3 := ihr fun u hu => h u (List.mem_cons_of_mem _ hu)
      have h4 : (encT d t.K t.N t.S t.L).length ≤ 64 * (1 + cntL d t.L) := body_len h1 (ih t.L h2)
      have e1 : (encL (d + 1) (t :: r)).length = (encT d t.K t.N t.S t.L).length + (encL (d + 1) r).length := by
        show (List.flatMap _ (t :: r)).length = _
        rw [List.flatMap_cons, List.length_append]; rfl
      have e2 : cntL (d + 1) (t :: r) = (1 + cntL d t.L) + cntL (d + 1) r := by simp [cntL]
      omega

theorem right_len {d : Nat} {k n : Int} {s : ByteArray} {ts : List (Tm d)} (h : Right d k n s ts 8 300) : (encT d k n s ts).length ≤ 19200 := by
  have := body_len h.1 (encL_len d ts h.2.1)
  have := h.2.2.2
  omega

set_option maxHeartbeats 1000000 in
/-- The model's bytes of a term: none of a term that isn't right. -/
theorem specPutTerm_any (d : Nat) (k n : Int) (s : ByteArray) (l : Value) (ts : List (Tm d)) (w : World) (hr : RdL d w l ts) (hw : WfL d ts) (wk : I64 k) (wn : I64 n) (hs : s.size ≤ 9223372036854775807) :
    Calls Try.prog 75 #[.agg #[.int .i64 k, .int .i64 n, .string s, l]] w fun e w' => ∃ g c xs, e = .returned (.slice (some ⟨g, 0, none⟩) xs.length c) ∧
      ((Right d k n s ts 8 300 ∧ xs = encT d k n s ts) ∨ (¬ Right d k n s ts 8 300 ∧ xs = [])) ∧
      w'.ownsRow w.heap.size 5 1 (.slice (some ⟨g, 0, none⟩) xs.length c) xs.length (xs.map (Value.int .u8)) ∧ Below w.heap.size w w' := by
  obtain ⟨a, c, e⟩ := hr.len
  obtain ⟨W, hW⟩ : ∃ W, W = w.alloc (.cells #[.int .i64 k, .int .i64 n, .string s, l] 26) := ⟨_, rfl⟩
  have hA : Below w.heap.size w W := by rw [hW]; exact (Below.refl _ _).alloc (Nat.le_refl _) _
  have hC := specTermOk_any d k n s l ts W (hr.later hA) hw hs
  have hB1 : W.heap[w.heap.size]? = some (.cells #[.int .i64 k, .int .i64 n, .string s, l] 26 (0, 0)) := by rw [hW]; exact heap_alloc_new w _
  have hWz : W.heap.size = w.heap.size + 1 := by rw [hW]; simp
  have HW : Hid (W = _) := hW
  have HR : Hid (RdL d W l ts) := hr.later hA
  have HWF : Hid (WfL d ts) := hw
  rw [hW] at hC
  rw [e] at hC hW HW hB1 HR ⊢
  clear hr hW hw
  go_enter Try.func75, Try.ntmps75
  go_wp2_with fail
  refine hC.mono ?_
  clear hC
  rintro e1 w1 ⟨b, rfl, hb, hB⟩
  rw [← HW.out] at hB
  have hb1 : Below w.heap.size w w1 := hA.trans (hB.mono hA.size)
  have hh1 : w1.heap[w.heap.size]? = _ := (hB.block _ (by omega)).trans hB1
  have q0 : w1.cell? ⟨w.heap.size, 0, none⟩ = some (.int .i64 k) := by rw [cell_of_row w1 _ 0 _ _ _ hh1]; rfl
  have q1 : w1.cell? ⟨w.heap.size, 1, none⟩ = some (.int .i64 n) := by rw [cell_of_row w1 _ 1 _ _ _ hh1]; rfl
  have q2 : w1.cell? ⟨w.heap.size, 2, none⟩ = some (.string s) := by rw [cell_of_row w1 _ 2 _ _ _ hh1]; rfl
  have q3 : w1.cell? ⟨w.heap.size, 3, none⟩ = some (.slice a ts.length c) := by rw [cell_of_row w1 _ 3 _ _ _ hh1]; rfl
  have HR1 : Hid (RdL d w1 _ ts) := HR.out.later hB
  have hz1 : w.heap.size ≤ w1.heap.size := hb1.size
  obtain ⟨W2, hW2⟩ : ∃ W2, W2 = w1.alloc (.cells #[] 5) := ⟨_, rfl⟩
  have hA2 : Below w1.heap.size w1 W2 := by rw [hW2]; exact (Below.refl _ _).alloc (Nat.le_refl _) _
  have hb2 : Below w.heap.size w W2 := hb1.trans (hA2.mono hz1)
  have hlit : Hid (W2.ownsRow w.heap.size 5 1 (.slice (some ⟨w1.heap.size, 0, none⟩) 0 0) 0 []) := by rw [hW2]; exact World.ownsRow_lit w1 #[] 0 hz1 (Nat.zero_le _) rfl
  have hz2 : w1.heap.size < W2.heap.size := by rw [hW2]; simp
  clear hB hh1 hA hB1 hWz HR HW
  cases b
  · have HN : Hid (¬ Right d k n s ts 8 300) := fun h => by have := hb.2 h; cases this
    clear hb
    go_wp2_with fail
    go_ret
    rw [← hW2]
    exact ⟨w1.heap.size, 0, [], rfl, .inr ⟨HN.out, rfl⟩, hlit.out, hb2⟩
  · have HN : Hid (Right d k n s ts 8 300) := hb.1 rfl
    have hC := specPutT_any d w1.heap.size 0 0 [] k n s _ ts W2 rfl hz2 (fun i hi => absurd hi (Nat.not_lt_zero _)) (HR1.out.later hA2) HWF.out wk wn hs (by have := right_len HN.out; omega)
    have p0 := cell_later hA2 q0
    have p1 := cell_later hA2 q1
    have p2 := cell_later hA2 q2
    have p3 := cell_later hA2 q3
    rw [hW2] at hC p0 p1 p2 p3
    have HW2 : Hid (W2 = _) := hW2
    clear hb hW2
    go_wp2_with fail
    refine hC.mono ?_
    clear hC
    rintro e3 w3 ⟨g3, c3, rfl, own3, bel3⟩
    rw [← HW2.out] at own3 bel3
    have own4 := own_weak own3 hb2.size
    have hb3 : Below w.heap.size w w3 := hb2.trans (bel3.mono hb2.size)
    clear own3 bel3 q0 q1 q2 q3 p0 p1 p2 p3 HW2
    go_wp2_with fail
    go_ret
    exact ⟨g3, c3, _, rfl, .inl ⟨HN.out, rfl⟩, own4, hb3⟩

end Go.Proofs.Ythjmbbpakidkdaa
