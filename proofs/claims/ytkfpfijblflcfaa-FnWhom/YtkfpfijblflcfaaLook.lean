/- When a term is right in all its storeys, and that the model's walk over it tells it. -/
import Derived.Test.YtkfpfijblflcfaaOk
namespace Go.Proofs.Ytkfpfijblflcfaa
open Go.RowKit
set_option linter.unusedVariables false

/-- All terms of a list have their shapes, all storeys. -/
def OkL : (d : Nat) → List (Tm d) → Prop
  | 0, _ => True
  | d + 1, ts => ∀ t ∈ ts, Shape t.K t.N t.S t.L.length ∧ OkL d t.L

/-- A term that is right, no deeper than told, of no more than are left. -/
def Right (d : Nat) (k n : Int) (s : ByteArray) (ts : List (Tm d)) (deep left : Int) : Prop :=
  Shape k n s ts.length ∧ OkL d ts ∧ ((1 + depL d ts : Nat) : Int) ≤ deep ∧ ((1 + cntL d ts : Nat) : Int) ≤ left

theorem depL_le {d : Nat} {ts : List (Tm (d + 1))} {m : Nat} : depL (d + 1) ts ≤ m ↔ ∀ t ∈ ts, 1 + depL d t.L ≤ m := by
  constructor
  · intro h t ht
    have := (foldl_max_ge (ts.map fun t => 1 + depL d t.L) 0).2 _ (List.mem_map.2 ⟨t, ht, rfl⟩)
    exact Nat.le_trans this h
  · intro h
    refine foldl_max_le _ 0 m (Nat.zero_le _) fun x hx => ?_
    obtain ⟨t, ht, rfl⟩ := List.mem_map.1 hx
    exact h t ht

/-- The contract of a walk that tells how many may be left. -/
def LookC (f d : Nat) : Prop := ∀ (k n : Int) (s : ByteArray) (l : Value) (ts : List (Tm d)) (deep left : Int) (w : World), RdL d w l ts → WfL d ts → s.size ≤ 9223372036854775807 → -1000 ≤ deep → deep ≤ 1000 → -1000 ≤ left → left ≤ 1000000 →
  Calls Try.prog f #[.agg #[.int .i64 k, .int .i64 n, .string s, l], .int .i64 deep, .int .i64 left] w fun e w' => ∃ r : Int, e = .returned (.int .i64 r) ∧ ((Right d k n s ts deep left ∧ r = left - (1 + cntL d ts : Nat)) ∨ (¬ Right d k n s ts deep left ∧ r = -1)) ∧ Below w.heap.size w w'

set_option maxHeartbeats 1000000 in
/-- What is refused at once. -/
theorem specLook_no (k n : Int) (s : ByteArray) (a : Option Addr) (len c : Nat) (deep left : Int) (w : World) (hs : s.size ≤ 9223372036854775807) (hl : len ≤ 9223372036854775807)
    (h : deep < 1 ∨ left < 1 ∨ ¬ Shape k n s len) :
    Calls Try.prog 77 #[.agg #[.int .i64 k, .int .i64 n, .string s, .slice a len c], .int .i64 deep, .int .i64 left] w fun e w' => e = .returned (.int .i64 (-1)) ∧ Below w.heap.size w w' := by
  obtain ⟨W, hW⟩ : ∃ W, W = w.alloc (.cells #[.int .i64 k, .int .i64 n, .string s, .slice a len c] 41) := ⟨_, rfl⟩
  have hA : Below w.heap.size w W := by rw [hW]; exact (Below.refl _ _).alloc (Nat.le_refl _) _
  by_cases h1 : deep < 1
  · rw [hW] at hA
    clear hW
    go_enter Try.func77, Try.ntmps77
    go_wp2_with fail
    go_ret
    exact ⟨rfl, hA⟩
  · by_cases h2 : left < 1
    · rw [hW] at hA
      clear hW
      go_enter Try.func77, Try.ntmps77
      go_wp2_with fail
      go_ret
      exact ⟨rfl, hA⟩
    · have h3 : Hid (¬ Shape k n s len) := by rcases h with h | h | h; exact absurd h h1; exact absurd h h2; exact h
      have hC := specShape_any k n s a len c W hs hl
      rw [hW] at hC
      have HW : Hid (W = _) := hW
      clear h hW
      go_enter Try.func77, Try.ntmps77
      go_wp2_with fail
      refine hC.mono ?_
      clear hC
      rintro e w1 ⟨b, rfl, hb, hB⟩
      rw [← HW.out] at hB
      have hb2 : Below w.heap.size w w1 := hA.trans (hB.mono hA.size)
      have : b = false := by cases b; rfl; exact absurd (hb.1 rfl) h3.out
      subst this
      clear hb hB hA HW h3
      go_wp2_with fail
      go_ret
      exact ⟨rfl, hb2⟩

theorem right_zero {k n : Int} {s : ByteArray} {ts : List (Tm 0)} {deep left : Int} (h1 : ¬ deep < 1) (h2 : ¬ left < 1) (h3 : Shape k n s ts.length) : Right 0 k n s ts deep left :=
  ⟨h3, trivial, by show ((1 + 0 : Nat) : Int) ≤ deep; omega, by show ((1 + 0 : Nat) : Int) ≤ left; omega⟩

/-- The first j terms of a list are right. -/
def RightP (d : Nat) (ts : List (Tm (d + 1))) (deep left : Int) (j : Nat) : Prop :=
  (∀ i t, i < j → ts[i]? = some t → Shape t.K t.N t.S t.L.length ∧ OkL d t.L ∧ ((1 + depL d t.L : Nat) : Int) ≤ deep - 1) ∧ ((1 + cntP d ts j : Nat) : Int) ≤ left

theorem rightP_all {d : Nat} {k n : Int} {s : ByteArray} {ts : List (Tm (d + 1))} {deep left : Int} {j : Nat} (hd : ¬ deep < 1) (h3 : Shape k n s ts.length) (hj : ts.length ≤ j) (h : RightP d ts deep left j) : Right (d + 1) k n s ts deep left := by
  refine ⟨h3, fun t ht => ?_, ?_, by have := h.2; rw [cntP_all d ts j hj] at this; exact this⟩
  · obtain ⟨i, hi, e⟩ := List.getElem_of_mem ht
    have := h.1 i t (by omega) (by rw [List.getElem?_eq_getElem hi, e])
    exact ⟨this.1, this.2.1⟩
  · have : depL (d + 1) ts ≤ (deep - 1).toNat := depL_le.2 fun t ht => by
      obtain ⟨i, hi, e⟩ := List.getElem_of_mem ht
      have := (h.1 i t (by omega) (by rw [List.getElem?_eq_getElem hi, e])).2.2
      omega
    omega

theorem right_elem {d : Nat} {k n : Int} {s : ByteArray} {ts : List (Tm (d + 1))} {deep left : Int} {j : Nat} {t : Tm (d + 1)} (ht : ts[j]? = some t) (h : Right (d + 1) k n s ts deep left) : Right d t.K t.N t.S t.L (deep - 1) (left - 1 - cntP d ts j) := by
  have hm := List.mem_of_getElem? ht
  obtain ⟨_, h2, h3, h4⟩ := h
  have h5 := h2 t hm
  have h6 : 1 + depL d t.L ≤ depL (d + 1) ts := (depL_le (m := depL (d + 1) ts)).1 (Nat.le_refl _) t hm
  have h7 := cntP_succ d ts j t ht
  have h8 := cntP_le d ts (j + 1)
  exact ⟨h5.1, h5.2, by omega, by omega⟩

theorem rightP_step {d : Nat} {ts : List (Tm (d + 1))} {deep left : Int} {j : Nat} {t : Tm (d + 1)} (ht : ts[j]? = some t) (h : RightP d ts deep left j) (hr : Right d t.K t.N t.S t.L (deep - 1) (left - 1 - cntP d ts j)) : RightP d ts deep left (j + 1) := by
  have h7 := cntP_succ d ts j t ht
  obtain ⟨r1, r2, r3, r4⟩ := hr
  refine ⟨fun i u hi hu => ?_, by omega⟩
  by_cases hij : i < j
  · exact h.1 i u hij hu
  · obtain rfl : i = j := by omega
    rw [ht] at hu
    obtain rfl := Option.some.inj hu
    exact ⟨r1, r2, r3⟩

set_option maxHeartbeats 2000000 in
theorem specLook_any : ∀ d, LookC 77 d := by
  intro d
  induction d with
  | zero =>
    intro k n s l ts deep left w hr hw hs hd0 hd1 hl0 hl1
    obtain ⟨a, c, rfl⟩ := hr.len
    have hln := hw.len
    by_cases h : deep < 1 ∨ left < 1 ∨ ¬ Shape k n s ts.length
    · refine (specLook_no k n s a _ c deep left w hs hln h).mono ?_
      rintro e w' ⟨rfl, hb⟩
      refine ⟨-1, rfl, .inr ⟨fun hR => ?_, rfl⟩, hb⟩
      obtain ⟨r1, _, r3, r4⟩ := hR
      rcases h with h | h | h
      · omega
      · omega
      · exact h r1
    · have h1 : ¬ deep < 1 := fun e => h (.inl e)
      have h2 : ¬ left < 1 := fun e => h (.inr (.inl e))
      have h3 : Shape k n s ts.length := Classical.byContradiction fun e => h (.inr (.inr e))
      have HR : Hid (Right 0 k n s ts deep left) := right_zero h1 h2 h3
      have hz : ts.length = 0 := by
        cases ts with
        | nil => rfl
        | cons t _ => exact Empty.elim t
      have H3 : Hid (Shape k n s 0) := by rw [← hz]; exact h3
      rw [hz]
      obtain ⟨W, hW⟩ : ∃ W, W = w.alloc (.cells #[.int .i64 k, .int .i64 n, .string s, .slice a 0 c] 41) := ⟨_, rfl⟩
      have hA : Below w.heap.size w W := by rw [hW]; exact (Below.refl _ _).alloc (Nat.le_refl _) _
      have hWz : W.heap.size = w.heap.size + 1 := by rw [hW]; simp
      have hB1 : W.heap[w.heap.size]? = some (.cells #[.int .i64 k, .int .i64 n, .string s, .slice a 0 c] 41 (0, 0)) := by rw [hW]; exact heap_alloc_new w _
      have hC := specShape_any k n s a 0 c W hs (by omega)
      rw [hW] at hC
      have HW : Hid (W = _) := hW
      clear h hW h3
      go_enter Try.func77, Try.ntmps77
      go_wp2_with fail
      refine hC.mono ?_
      clear hC
      rintro e w1 ⟨b, rfl, hb, hB⟩
      rw [← HW.out] at hB
      have hb2 : Below w.heap.size w w1 := hA.trans (hB.mono hA.size)
      have : b = true := hb.2 H3.out
      subst this
      have c1 : w1.cell? ⟨w.heap.size, 3, none⟩ = some (.slice a 0 c) := by rw [cell_of_row w1 _ 3 _ _ _ ((hB.block _ (by omega)).trans hB1)]; rfl
      clear hb hB hA HW hB1
      go_wp2_with fail
      refine wp_loop_rounds 1 ?_
      rw [rounds_succ]
      go_wp2
      go_ret
      exact ⟨_, rfl, .inl ⟨HR.out, rfl⟩, hb2⟩
  | succ d ih =>
    intro k n s l ts deep left w hr hw hs hd0 hd1 hl0 hl1
    obtain ⟨a, c, rfl, hel⟩ := hr
    have hln := hw.len
    by_cases h : deep < 1 ∨ left < 1 ∨ ¬ Shape k n s ts.length
    · refine (specLook_no k n s a _ c deep left w hs hln h).mono ?_
      rintro e w' ⟨rfl, hb⟩
      refine ⟨-1, rfl, .inr ⟨fun hR => ?_, rfl⟩, hb⟩
      obtain ⟨r1, _, r3, r4⟩ := hR
      rcases h with h | h | h
      · omega
      · omega
      · exact h r1
    · have h1 : ¬ deep < 1 := fun e => h (.inl e)
      have h2 : ¬ left < 1 := fun e => h (.inr (.inl e))
      have H3 : Hid (Shape k n s ts.length) := Classical.byContradiction fun e => h (.inr (.inr e))
      have HE : Hid (∀ (i : Nat) (t : Tm (d + 1)), ts[i]? = some t → ∃ b o lv, a = some ⟨b, o, none⟩ ∧ Four w b (o + i * 4) t.K t.N t.S lv ∧ RdL d w lv t.L) := hel
      have HWF : Hid (WfL (d + 1) ts) := hw
      obtain ⟨len, hl⟩ : ∃ len, ts.length = len := ⟨_, rfl⟩
      have HL : Hid (ts.length = len) := hl
      rw [hl] at hln ⊢
      obtain ⟨W, hW⟩ : ∃ W, W = w.alloc (.cells #[.int .i64 k, .int .i64 n, .string s, .slice a len c] 41) := ⟨_, rfl⟩
      have hA : Below w.heap.size w W := by rw [hW]; exact (Below.refl _ _).alloc (Nat.le_refl _) _
      have hWz : W.heap.size = w.heap.size + 1 := by rw [hW]; simp
      have hB1 : W.heap[w.heap.size]? = some (.cells #[.int .i64 k, .int .i64 n, .string s, .slice a len c] 41 (0, 0)) := by rw [hW]; exact heap_alloc_new w _
      have hC := specShape_any k n s a len c W hs hln
      rw [hW] at hC
      have HW : Hid (W = _) := hW
      have HI : Hid (LookC 77 d) := ih
      clear h hW ih hel hw hl
      go_enter Try.func77, Try.ntmps77
      go_wp2_with fail
      refine hC.mono ?_
      clear hC
      rintro e w1 ⟨b, rfl, hb, hB⟩
      rw [← HW.out] at hB
      have : b = true := hb.2 (by rw [← HL.out]; exact H3.out)
      subst this
      have HB1 : Hid (w1.heap[w.heap.size]? = _) := (hB.block _ (by omega)).trans hB1
      have hbw1 : Below w.heap.size w w1 := hA.trans (hB.mono hA.size)
      have hwz : w.heap.size < w1.heap.size := by have := hB.size; omega
      clear hb hB hA HW hB1 hWz
      go_wp2_with fail
      go_loopw [2, 7] (fun x i wr => ∃ (j : Nat) (y : Int), j ≤ len ∧ i = .int .i64 j ∧ x = .int .i64 y ∧ Below w1.heap.size w1 wr ∧ Hid ((RightP d ts deep left j ∧ y = left - 1 - cntP d ts j) ∨ (¬ Right (d + 1) k n s ts deep left ∧ y = -1))) (fun _ i _ => len - (intOf i).toNat)
      case atStart => exact ⟨0, _, Nat.zero_le _, rfl, rfl, Below.refl _ _, .inl ⟨⟨fun i t hi => by omega, by show ((1 + 0 : Nat) : Int) ≤ left; omega⟩, by show left - 1 = left - 1 - ((0 : Nat) : Int); omega⟩⟩
      case round =>
        obtain ⟨j, y, hj, rfl, rfl, hb, HS⟩ := hrel
        have c1 : wr.cell? ⟨w.heap.size, 3, none⟩ = some (.slice a len c) := by rw [cell_of_row wr _ 3 _ _ _ ((hb.block _ hwz).trans HB1.out)]; rfl
        have hbw : Below w.heap.size w wr := hbw1.trans (hb.mono hbw1.size)
        rcases HS.out with ⟨hP, hy⟩ | ⟨hN, hy⟩
        · have hy0 : 0 ≤ y := by have := hP.2; omega
          have hy1 : y ≤ 1000000 := by omega
          by_cases hjl : j < len
          · obtain ⟨t, ht⟩ : ∃ t, ts[j]? = some t := ⟨_, List.getElem?_eq_getElem (by rw [HL.out]; exact hjl)⟩
            obtain ⟨b1, o1, lv1, rfl, F1, L1⟩ := HE.out j t ht
            obtain ⟨_, _, hst, hwt⟩ := HWF.out.2 t (List.mem_of_getElem? ht)
            obtain ⟨f0, f1, f2, f3⟩ := F1.later hbw
            have hC := HI.out t.K t.N t.S lv1 t.L (deep - 1) y wr (L1.later hbw) hwt hst (by omega) (by omega) (by omega) (by omega)
            have HNX : Hid (∀ r : Int, ((Right d t.K t.N t.S t.L (deep - 1) y ∧ r = y - (1 + cntL d t.L : Nat)) ∨ (¬ Right d t.K t.N t.S t.L (deep - 1) y ∧ r = -1)) → (RightP d ts deep left (j + 1) ∧ r = left - 1 - cntP d ts (j + 1)) ∨ (¬ Right (d + 1) k n s ts deep left ∧ r = -1)) := fun r hr => by
              have hstep := cntP_succ d ts j t ht
              rcases hr with ⟨r1, r2⟩ | ⟨r1, r2⟩
              · rw [hy] at r1
                exact .inl ⟨rightP_step ht hP r1, by omega⟩
              · exact .inr ⟨fun hR => r1 (by rw [hy]; exact right_elem ht hR), r2⟩
            have hjl' : (j : Int) < (len : Int) := by omega
            clear F1 L1 hwt hst ht hP hy HS
            go_wp2_with fail
            refine hC.mono ?_
            clear hC
            rintro e V ⟨r, rfl, hr, hB⟩
            have HR2 : Hid _ := HNX.out r hr
            have hb2 : Below w1.heap.size w1 V := hb.trans (hB.mono hb.size)
            clear hb hB f0 f1 f2 f3 c1 hr HNX
            go_wp2
            go_roundw
            case rel => exact ⟨j + 1, r, by omega, by go_num, rfl, hb2, HR2⟩
            case measure => simp [intOf]; omega
          · have HR : Hid (Right (d + 1) k n s ts deep left) := rightP_all (by omega) H3.out (by have := HL.out; omega) hP
            have HY : Hid (y = left - (1 + cntL (d + 1) ts : Nat)) := by have := cntP_all d ts j (by have := HL.out; omega); show _ = _; omega
            clear hb hP hy HS
            go_wp2
            go_ret
            exact ⟨y, rfl, .inl ⟨HR.out, HY.out⟩, hbw⟩
        · have HR : Hid (¬ Right (d + 1) k n s ts deep left) := hN
          subst hy
          clear hb hN HS
          by_cases hjl : j < len
          · have hjl' : (j : Int) < (len : Int) := by omega
            go_wp2
            go_ret
            exact ⟨-1, rfl, .inr ⟨HR.out, rfl⟩, hbw⟩
          · go_wp2
            go_ret
            exact ⟨-1, rfl, .inr ⟨HR.out, rfl⟩, hbw⟩

set_option maxHeartbeats 400000 in
/-- The model's check of a term: right, at most 8 deep, at most 300 in all. -/
theorem specTermOk_any (d : Nat) (k n : Int) (s : ByteArray) (l : Value) (ts : List (Tm d)) (w : World) (hr : RdL d w l ts) (hw : WfL d ts) (hs : s.size ≤ 9223372036854775807) :
    Calls Try.prog 62 #[.agg #[.int .i64 k, .int .i64 n, .string s, l]] w fun e w' => ∃ b : Bool, e = .returned (.bool b) ∧ (b = true ↔ Right d k n s ts 8 300) ∧ Below w.heap.size w w' := by
  have hA : Below w.heap.size w (w.alloc (.cells #[.int .i64 k, .int .i64 n, .string s, l] 41)) := (Below.refl _ _).alloc (Nat.le_refl _) _
  obtain ⟨a, c, e⟩ := hr.len
  have hC := specLook_any d k n s l ts 8 300 _ (hr.later hA) hw hs (by omega) (by omega) (by omega) (by omega)
  rw [e] at hC hA ⊢
  clear hr
  go_enter Try.func62, Try.ntmps62
  go_wp2_with fail
  refine hC.mono ?_
  clear hC
  rintro e w1 ⟨r, rfl, hr, hB⟩
  have hb2 : Below w.heap.size w w1 := hA.trans (hB.mono (by simp))
  clear hA hB
  rcases hr with ⟨r1, r2⟩ | ⟨r1, r2⟩
  · have h0 : 0 ≤ r := by have := r1.2.2.2; omega
    have HR : Hid (Right d k n s ts 8 300) := r1
    clear r1 r2
    go_wp2
    go_ret
    exact ⟨_, rfl, by simp [HR.out], hb2⟩
  · have HR : Hid (¬ Right d k n s ts 8 300) := r1
    subst r2
    clear r1
    go_wp2
    go_ret
    exact ⟨_, rfl, by simp [HR.out], hb2⟩

end Go.Proofs.Ytkfpfijblflcfaa
