/- When a term is right in all its storeys, and that the model's walk over it tells it. -/
import Derived.Test.YtbllnmafilabpaaTmM
import Derived.BigQuiet
import Derived.Deep.DeepCutAuto
import Derived.Deep.CutRange
namespace Go.Proofs.Ytbllnmafilabpaa
open Go.RowKit
set_option linter.unusedVariables false

/-- All terms of a list have their shapes, all storeys. -/
def OkL : (d : Nat) → List (Tm d) → Prop
  | 0, _ => True
  | d + 1, ts => ∀ t ∈ ts, Shape t.K t.N t.S t.L.length ∧ OkL d t.L

/-- A term that is right, no deeper than told, of no more than are left. -/
def Right (d : Nat) (k n : Int) (s : ByteArray) (ts : List (Tm d)) (deep left : Int) : Prop :=
  Shape k n s ts.length ∧ OkL d ts ∧ ((1 + depL d ts : Nat) : Int) ≤ deep ∧ ((1 + cntL d ts : Nat) : Int) ≤ left

theorem depL_le {d : Nat} {ts : List (Tm (d + 1))} {m : Nat} : depL (d + 1) ts ≤ m ↔ ∀ t ∈ ts, 1 + depL d t.L ≤ m := by
  constructor
  · intro h t ht
    have := (foldl_max_ge (ts.map fun t => 1 + depL d t.L) 0).2 _ (List.mem_map.2 ⟨t, ht, rfl⟩)
    exact Nat.le_trans this h
  · intro h
    refine foldl_max_le _ 0 m (Nat.zero_le _) fun x hx => ?_
    obtain ⟨t, ht, rfl⟩ := List.mem_map.1 hx
    exact h t ht

/-- The contract of a walk that tells how many may be left. -/
def LookC (f d : Nat) : Prop := ∀ (k n : Int) (s : ByteArray) (l : Value) (ts : List (Tm d)) (deep left : Int) (w : World), RdL d w l ts → WfL d ts → s.size ≤ 9223372036854775807 → -1000 ≤ deep → deep ≤ 1000 → -1000 ≤ left → left ≤ 1000000 →
  Calls Try.prog f #[.agg #[.int .i64 k, .int .i64 n, .string s, l], .int .i64 deep, .int .i64 left] w fun e w' => ∃ r : Int, e = .returned (.int .i64 r) ∧ ((Right d k n s ts deep left ∧ r = left - (1 + cntL d ts : Nat)) ∨ (¬ Right d k n s ts deep left ∧ r = -1)) ∧ Below w.heap.size w w'

set_option maxHeartbeats 1000000 in
/-- What is refused at once. -/
theorem specLook_no (k n : Int) (s : ByteArray) (a : Option Addr) (len c : Nat) (deep left : Int) (w : World) (hs : s.size ≤ 9223372036854775807) (hl : len ≤ 9223372036854775807)
    (h : deep < 1 ∨ left < 1 ∨ ¬ Shape k n s len) :
    Calls Try.prog 19 #[.agg #[.int .i64 k, .int .i64 n, .string s, .slice a len c], .int .i64 deep, .int .i64 left] w fun e w' => e = .returned (.int .i64 (-1)) ∧ Below w.heap.size w w' := by
  obtain ⟨W, hW⟩ : ∃ W, W = w.alloc (.cells #[.int .i64 k, .int .i64 n, .string s, .slice a len c] 26) := ⟨_, rfl⟩
  have hA : Below w.heap.size w W := by rw [hW]; exact (Below.refl _ _).alloc (Nat.le_refl _) _
  by_cases h1 : deep < 1
  · rw [hW] at hA
    clear hW
    go_enter Try.func19, Try.ntmps19
    go_wp2_with fail
    go_ret
    exact ⟨rfl, hA⟩
  · by_cases h2 : left < 1
    · rw [hW] at hA
      clear hW
      go_enter Try.func19, Try.ntmps19
      go_wp2_with fail
      go_ret
      exact ⟨rfl, hA⟩
    · have h3 : Hid (¬ Shape k n s len) := by rcases h with h | h | h; exact absurd h h1; exact absurd h h2; exact h
      have hC := specShape_any k n s a len c W hs hl
      rw [hW] at hC
      have HW : Hid (W = _) := hW
      clear h hW
      go_enter Try.func19, Try.ntmps19
      go_wp2_with fail
      refine hC.mono ?_
      clear hC
      rintro e w1 ⟨b, rfl, hb, hB⟩
      rw [← HW.out] at hB
      have hb2 : Below w.heap.size w w1 := hA.trans (hB.mono hA.size)
      have : b = false := by cases b; rfl; exact absurd (hb.1 rfl) h3.out
      subst this
      clear hb hB hA HW h3
      go_wp2_with fail
      go_ret
      exact ⟨rfl, hb2⟩

theorem right_zero {k n : Int} {s : ByteArray} {ts : List (Tm 0)} {deep left : Int} (h1 : ¬ deep < 1) (h2 : ¬ left < 1) (h3 : Shape k n s ts.length) : Right 0 k n s ts deep left :=
  ⟨h3, trivial, by show ((1 + 0 : Nat) : Int) ≤ deep; omega, by show ((1 + 0 : Nat) : Int) ≤ left; omega⟩

/-- The first j terms of a list are right. -/
def RightP (d : Nat) (ts : List (Tm (d + 1))) (deep left : Int) (j : Nat) : Prop :=
  (∀ i t, i < j → ts[i]? = some t → Shape t.K t.N t.S t.L.length ∧ OkL d t.L ∧ ((1 + depL d t.L : Nat) : Int) ≤ deep - 1) ∧ ((1 + cntP d ts j : Nat) : Int) ≤ left

theorem rightP_all {d : Nat} {k n : Int} {s : ByteArray} {ts : List (Tm (d + 1))} {deep left : Int} {j : Nat} (hd : ¬ deep < 1) (h3 : Shape k n s ts.length) (hj : ts.length ≤ j) (h : RightP d ts deep left j) : Right (d + 1) k n s ts deep left := by
  refine ⟨h3, fun t ht => ?_, ?_, by have := h.2; rw [cntP_all d ts j hj] at this; exact this⟩
  · obtain ⟨i, hi, e⟩ := List.getElem_of_mem ht
    have := h.1 i t (by omega) (by rw [List.getElem?_eq_getElem hi, e])
    exact ⟨this.1, this.2.1⟩
  · have : depL (d + 1) ts ≤ (deep - 1).toNat := depL_le.2 fun t ht => by
      obtain ⟨i, hi, e⟩ := List.getElem_of_mem ht
      have := (h.1 i t (by omega) (by rw [List.getElem?_eq_getElem hi, e])).2.2
      omega
    omega

theorem right_elem {d : Nat} {k n : Int} {s : ByteArray} {ts : List (Tm (d + 1))} {deep left : Int} {j : Nat} {t : Tm (d + 1)} (ht : ts[j]? = some t) (h : Right (d + 1) k n s ts deep left) : Right d t.K t.N t.S t.L (deep - 1) (left - 1 - cntP d ts j) := by
  have hm := List.mem_of_getElem? ht
  obtain ⟨_, h2, h3, h4⟩ := h
  have h5 := h2 t hm
  have h6 : 1 + depL d t.L ≤ depL (d + 1) ts := (depL_le (m := depL (d + 1) ts)).1 (Nat.le_refl _) t hm
  have h7 := cntP_succ d ts j t ht
  have h8 := cntP_le d ts (j + 1)
  exact ⟨h5.1, h5.2, by omega, by omega⟩

theorem rightP_step {d : Nat} {ts : List (Tm (d + 1))} {deep left : Int} {j : Nat} {t : Tm (d + 1)} (ht : ts[j]? = some t) (h : RightP d ts deep left j) (hr : Right d t.K t.N t.S t.L (deep - 1) (left - 1 - cntP d ts j)) : RightP d ts deep left (j + 1) := by
  have h7 := cntP_succ d ts j t ht
  obtain ⟨r1, r2, r3, r4⟩ := hr
  refine ⟨fun i u hi hu => ?_, by omega⟩
  by_cases hij : i < j
  · exact h.1 i u hij hu
  · obtain rfl : i = j := by omega
    rw [ht] at hu
    obtain rfl := Option.some.inj hu
    exact ⟨r1, r2, r3⟩

set_option maxHeartbeats 2000000 in
theorem specLook_any : ∀ d, LookC 19 d := by
  intro d
  induction d with
  | zero =>
    intro k n s l ts deep left w hr hw hs hd0 hd1 hl0 hl1
    obtain ⟨a, c, rfl⟩ := hr.len
    have hln := hw.len
    by_cases h : deep < 1 ∨ left < 1 ∨ ¬ Shape k n s ts.length
    · refine (specLook_no k n s a _ c deep left w hs hln h).mono ?_
      rintro e w' ⟨rfl, hb⟩
      refine ⟨-1, rfl, .inr ⟨fun hR => ?_, rfl⟩, hb⟩
      obtain ⟨r1, _, r3, r4⟩ := hR
      rcases h with h | h | h
      · omega
      · omega
      · exact h r1
    · have h1 : ¬ deep < 1 := fun e => h (.inl e)
      have h2 : ¬ left < 1 := fun e => h (.inr (.inl e))
      have h3 : Shape k n s ts.length := Classical.byContradiction fun e => h (.inr (.inr e))
      have HR : Hid (Right 0 k n s ts deep left) := right_zero h1 h2 h3
      have hz : ts.length = 0 := by
        cases ts with
        | nil => rfl
        | cons t _ => exact Empty.elim t
      have H3 : Hid (Shape k n s 0) := by rw [← hz]; exact h3
      rw [hz]
      obtain ⟨W, hW⟩ : ∃ W, W = w.alloc (.cells #[.int .i64 k, .int .i64 n, .string s, .slice a 0 c] 26) := ⟨_, rfl⟩
      have hA : Below w.heap.size w W := by rw [hW]; exact (Below.refl _ _).alloc (Nat.le_refl _) _
      have hWz : W.heap.size = w.heap.size + 1 := by rw [hW]; simp
      have hB1 : W.heap[w.heap.size]? = some (.cells #[.int .i64 k, .int .i64 n, .string s, .slice a 0 c] 26 (0, 0)) := by rw [hW]; exact heap_alloc_new w _
      have hC := specShape_any k n s a 0 c W hs (by omega)
      rw [hW] at hC
      have HW : Hid (W = _) := hW
      clear h hW h3
      go_enter Try.func19, Try.ntmps19
      go_wp2_with fail
      refine hC.mono ?_
      clear hC
      rintro e w1 ⟨b, rfl, hb, hB⟩
      rw [← HW.out] at hB
      have hb2 : Below w.heap.size w w1 := hA.trans (hB.mono hA.size)
      have : b = true := hb.2 H3.out
      subst this
      have c1 : w1.cell? ⟨w.heap.size, 3, none⟩ = some (.slice a 0 c) := by rw [cell_of_row w1 _ 3 _ _ _ ((hB.block _ (by omega)).trans hB1)]; rfl
      clear hb hB hA HW hB1
      go_wp2_with fail
      refine wp_loop_rounds 1 ?_
      rw [rounds_succ]
      go_wp2
      go_ret
      exact ⟨_, rfl, .inl ⟨HR.out, rfl⟩, hb2⟩
  | succ d ih =>
    intro k n s l ts deep left w hr hw hs hd0 hd1 hl0 hl1
    obtain ⟨a, c, rfl, hel⟩ := hr
    have hln := hw.len
    by_cases h : deep < 1 ∨ left < 1 ∨ ¬ Shape k n s ts.length
    · refine (specLook_no k n s a _ c deep left w hs hln h).mono ?_
      rintro e w' ⟨rfl, hb⟩
      refine ⟨-1, rfl, .inr ⟨fun hR => ?_, rfl⟩, hb⟩
      obtain ⟨r1, _, r3, r4⟩ := hR
      rcases h with h | h | h
      · omega
      · omega
      · exact h r1
    · have h1 : ¬ deep < 1 := fun e => h (.inl e)
      have h2 : ¬ left < 1 := fun e => h (.inr (.inl e))
      have H3 : Hid (Shape k n s ts.length) := Classical.byContradiction fun e => h (.inr (.inr e))
      have HE : Hid (∀ (i : Nat) (t : Tm (d + 1)), ts[i]? = some t → ∃ b o lv, a = some ⟨b, o, none⟩ ∧ Four w b (o + i * 4) t.K t.N t.S lv ∧ RdL d w lv t.L) := hel
      have HWF : Hid (WfL (d + 1) ts) := hw
      obtain ⟨len, hl⟩ : ∃ len, ts.length = len := ⟨_, rfl⟩
      have HL : Hid (ts.length = len) := hl
      rw [hl] at hln ⊢
      obtain ⟨W, hW⟩ : ∃ W, W = w.alloc (.cells #[.int .i64 k, .int .i64 n, .string s, .slice a len c] 26) := ⟨_, rfl⟩
      have hA : Below w.heap.size w W := by rw [hW]; exact (Below.refl _ _).alloc (Nat.le_refl _) _
      have hWz : W.heap.size = w.heap.size + 1 := by rw [hW]; simp
      have hB1 : W.heap[w.heap.size]? = some (.cells #[.int .i64 k, .int .i64 n, .string s, .slice a len c] 26 (0, 0)) := by rw [hW]; exact heap_alloc_new w _
      have hC := specShape_any k n s a len c W hs hln
      rw [hW] at hC
      have HW : Hid (W = _) := hW
      have HI : Hid (LookC 19 d) := ih
      clear h hW ih hel hw hl
      go_enter Try.func19, Try.ntmps19
      go_wp2_with fail
      refine hC.mono ?_
      clear hC
      rintro e w1 ⟨b, rfl, hb, hB⟩
      rw [← HW.out] at hB
      have : b = true := hb.2 (by rw [← HL.out]; exact H3.out)
      subst this
      have HB1 : Hid (w1.heap[w.heap.size]? = _) := (hB.block _ (by omega)).trans hB1
      have hbw1 : Below w.heap.size w w1 := hA.trans (hB.mono hA.size)
      have hwz : w.heap.size < w1.heap.size := by have := hB.size; omega
      clear hb hB hA HW hB1 hWz
      go_wp2_with fail
      go_loopw [2, 7] (fun x i wr => ∃ (j : Nat) (y : Int), j ≤ len ∧ i = .int .i64 j ∧ x = .int .i64 y ∧ Below w1.heap.size w1 wr ∧ Hid ((RightP d ts deep left j ∧ y = left - 1 - cntP d ts j) ∨ (¬ Right (d + 1) k n s ts deep left ∧ y = -1))) (fun _ i _ => len - (intOf i).toNat)
      case atStart => exact ⟨0, _, Nat.zero_le _, rfl, rfl, Below.refl _ _, .inl ⟨⟨fun i t hi => by omega, by show ((1 + 0 : Nat) : Int) ≤ left; omega⟩, by show left - 1 = left - 1 - ((0 : Nat) : Int); omega⟩⟩
      case round =>
        obtain ⟨j, y, hj, rfl, rfl, hb, HS⟩ := hrel
        have c1 : wr.cell? ⟨w.heap.size, 3, none⟩ = some (.slice a len c) := by rw [cell_of_row wr _ 3 _ _ _ ((hb.block _ hwz).trans HB1.out)]; rfl
        have hbw : Below w.heap.size w wr := hbw1.trans (hb.mono hbw1.size)
        rcases HS.out with ⟨hP, hy⟩ | ⟨hN, hy⟩
        · have hy0 : 0 ≤ y := by have := hP.2; omega
          have hy1 : y ≤ 1000000 := by omega
          by_cases hjl : j < len
          · obtain ⟨t, ht⟩ : ∃ t, ts[j]? = some t := ⟨_, List.getElem?_eq_getElem (by rw [HL.out]; exact hjl)⟩
            obtain ⟨b1, o1, lv1, rfl, F1, L1⟩ := HE.out j t ht
            obtain ⟨_, _, hst, hwt⟩ := HWF.out.2 t (List.mem_of_getElem? ht)
            obtain ⟨f0, f1, f2, f3⟩ := F1.later hbw
            have hC := HI.out t.K t.N t.S lv1 t.L (deep - 1) y wr (L1.later hbw) hwt hst (by omega) (by omega) (by omega) (by omega)
            have HNX : Hid (∀ r : Int, ((Right d t.K t.N t.S t.L (deep - 1) y ∧ r = y - (1 + cntL d t.L : Nat)) ∨ (¬ Right d t.K t.N t.S t.L (deep - 1) y ∧ r = -1)) → (RightP d ts deep left (j + 1) ∧ r = left - 1 - cntP d ts (j + 1)) ∨ (¬ Right (d + 1) k n s ts deep left ∧ r = -1)) := fun r hr => by
              have hstep := cntP_succ d ts j t ht
              rcases hr with ⟨r1, r2⟩ | ⟨r1, r2⟩
              · rw [hy] at r1
                exact .inl ⟨rightP_step ht hP r1, by omega⟩
              · exact .inr ⟨fun hR => r1 (by rw [hy]; exact right_elem ht hR), r2⟩
            have hjl' : (j : Int) < (len : Int) := by omega
            clear F1 L1 hwt hst ht hP hy HS
            go_wp2_with fail
            refine hC.mono ?_
            clear hC
            rintro e V ⟨r, rfl, hr, hB⟩
            have HR2 : Hid _ := HNX.out r hr
            have hb2 : Below w1.heap.size w1 V := hb.trans (hB.mono hb.size)
            clear hb hB f0 f1 f2 f3 c1 hr HNX
            go_wp2
            go_roundw
            case rel => exact ⟨j + 1, r, by omega, by go_num, rfl, hb2, HR2⟩
            case measure => simp [intOf]; omega
          · have HR : Hid (Right (d + 1) k n s ts deep left) := rightP_all (by omega) H3.out (by have := HL.out; omega) hP
            have HY : Hid (y = left - (1 + cntL (d + 1) ts : Nat)) := by have := cntP_all d ts j (by have := HL.out; omega); show _ = _; omega
            clear hb hP hy HS
            go_wp2
            go_ret
            exact ⟨y, rfl, .inl ⟨HR.out, HY.out⟩, hbw⟩
        · have HR : Hid (¬ Right (d + 1) k n s ts deep left) := hN
          subst hy
          clear hb hN HS
          by_cases hjl : j < len
          · have hjl' : (j : Int) < (len : Int) := by omega
            go_wp2
            go_ret
            exact ⟨-1, rfl, .inr ⟨HR.out, rfl⟩, hbw⟩
          · go_wp2
            go_ret
            exact ⟨-1, rfl, .inr ⟨HR.out, rfl⟩, hbw⟩

set_option maxHeartbeats 400000 in
/-- The model's check of a term: right, at most 8 deep, at most 300 in all. -/
theorem specTermOk_any (d : Nat) (k n : Int) (s : ByteArray) (l : Value) (ts : List (Tm d)) (w : World) (hr : RdL d w l ts) (hw : WfL d ts) (hs : s.size ≤ 9223372036854775807) :
    Calls Try.prog 8 #[.agg #[.int .i64 k, .int .i64 n, .string s, l]] w fun e w' => ∃ b : Bool, e = .returned (.bool b) ∧ (b = true ↔ Right d k n s ts 8 300) ∧ Below w.heap.size w w' := by
  have hA : Below w.heap.size w (w.alloc (.cells #[.int .i64 k, .int .i64 n, .string s, l] 26)) := (Below.refl _ _).alloc (Nat.le_refl _) _
  obtain ⟨a, c, e⟩ := hr.len
  have hC := specLook_any d k n s l ts 8 300 _ (hr.later hA) hw hs (by omega) (by omega) (by omega) (by omega)
  rw [e] at hC hA ⊢
  clear hr
  go_enter Try.func8, Try.ntmps8
  go_wp2_with fail
  refine hC.mono ?_
  clear hC
  rintro e w1 ⟨r, rfl, hr, hB⟩
  have hb2 : Below w.heap.size w w1 := hA.trans (hB.mono (by simp))
  clear hA hB
  rcases hr with ⟨r1, r2⟩ | ⟨r1, r2⟩
  · have h0 : 0 ≤ r := by have := r1.2.2.2; omega
    have HR : Hid (Right d k n s ts 8 300) := r1
    clear r1 r2
    go_wp2
    go_ret
    exact ⟨_, rfl, by simp [HR.out], hb2⟩
  · have HR : Hid (¬ Right d k n s ts 8 300) := r1
    subst r2
    clear r1
    go_wp2
    go_ret
    exact ⟨_, rfl, by simp [HR.out], hb2⟩

end Go.Proofs.Ytbllnmafilabpaa

/- A region that draws its order, whose operations only read and whose callees leave what was there: one walk. -/
namespace Go.Proofs.Ytbllnmafilabpaa
open Go.RowKit

/-- A world behind this one. -/
structure After (w : World) where
  now : World
  bel : Below w.heap.size w now

theorem After.some (w : World) : Nonempty (After w) := ⟨⟨w, Below.refl _ _⟩⟩

theorem wp_region_after {P : Program} {id : Nat} {Q : Exit → Act → World → Prop} {a : Act} {w : World} {l : List Oper} (hm : P.follows .mixedOrders = true) (hB : Region.lexB .any l.toArray = true)
    (h : wpQuiet P l.toArray (fun w' => ∃ n : After w, w' = n.now) (fun a' => ∀ w', (∃ n : After w, w' = n.now) → Q .normal a' w') l a) : (Code.region id l.toArray true).wp P Q a w :=
  wp_region_quiet (C := fun w' => ∃ n : After w, w' = n.now) hm hB ⟨⟨_, (Below.refl _ _).drew⟩, rfl⟩ (by simpa using h)

theorem calls_after {P : Program} {f : FuncId} {args : Array Value} {w : World} {n : After w} {v : Value}
    (h : Calls P f args n.now fun e w' => e = .returned v ∧ Below n.now.heap.size n.now w') : Calls P f args n.now fun e w'' => e = .returned v ∧ ∃ m : After w, w'' = m.now :=
  h.mono fun _ w' ⟨he, hb⟩ => ⟨he, ⟨w', n.bel.trans (hb.mono n.bel.size)⟩, rfl⟩

theorem After.cell {w : World} {a : Addr} {v : Value} (h : w.cell? a = .some v) (n : After w) : n.now.cell? a = .some v := cell_later n.bel h

end Go.Proofs.Ytbllnmafilabpaa

/- Which of two terms is less, and that the model's comparison tells it. -/
namespace Go.Proofs.Ytbllnmafilabpaa
open Go.RowKit
set_option linter.unusedVariables false

/-- The order of lists by the first that are unlike, then by how many. -/
def ltList {α : Type} (lt : α → α → Prop) : List α → List α → Prop
  | [], [] => False
  | [], _ :: _ => True
  | _ :: _, [] => False
  | a :: xs, b :: zs => (a = b ∧ ltList lt xs zs) ∨ (a ≠ b ∧ lt a b)

def BLt (s s' : ByteArray) : Prop := Op.bytesLess s.toList s'.toList = true

/-- The order of terms. -/
def Lt : (d : Nat) → Tm d → Tm d → Prop
  | 0, _, _ => False
  | d + 1, a, b => (a.K ≠ b.K ∧ a.K < b.K) ∨ (a.K = b.K ∧ (((a.K = 1 ∨ a.K = 3) ∧ a.N < b.N) ∨ (a.K = 2 ∧ BLt a.S b.S) ∨ ((a.K = 4 ∧ a.L.length ≠ b.L.length) ∧ a.L.length < b.L.length) ∨
      ((¬ (a.K = 1 ∨ a.K = 3) ∧ ¬ a.K = 2 ∧ ¬ (a.K = 4 ∧ a.L.length ≠ b.L.length)) ∧ ltList (Lt d) a.L b.L)))

theorem ltList_drop {α : Type} {lt : α → α → Prop} : ∀ (j : Nat) (xs zs : List α), j ≤ xs.length → j ≤ zs.length → (∀ m, m < j → xs[m]? = zs[m]?) → (ltList lt xs zs ↔ ltList lt (xs.drop j) (zs.drop j)) := by
  intro j
  induction j with
  | zero => intro xs zs _ _ _; simp
  | succ j ih =>
    intro xs zs h1 h2 h
    cases xs with
    | nil => simp at h1
    | cons a xs =>
      cases zs with
      | nil => simp at h2
      | cons b zs =>
        have e : a = b := by have := h 0 (by omega); simpa using this
        subst e
        rw [List.drop_succ_cons, List.drop_succ_cons, ← ih xs zs (by simpa using h1) (by simpa using h2) fun m hm => by have := h (m + 1) (by omega); simpa using this]
        show (a = a ∧ _) ∨ (a ≠ a ∧ _) ↔ _
        simp

theorem ltList_at {α : Type} {lt : α → α → Prop} {xs zs : List α} {j : Nat} {a b : α} (h1 : xs[j]? = some a) (h2 : zs[j]? = some b) (h : ∀ m, m < j → xs[m]? = zs[m]?) (hne : a ≠ b) : ltList lt xs zs ↔ lt a b := by
  have l1 := (List.getElem?_eq_some_iff.1 h1).1
  have l2 := (List.getElem?_eq_some_iff.1 h2).1
  have e1 := (List.getElem?_eq_some_iff.1 h1).2
  have e2 := (List.getElem?_eq_some_iff.1 h2).2
  rw [ltList_drop j xs zs (by omega) (by omega) h, List.drop_eq_getElem_cons l1, List.drop_eq_getElem_cons l2, e1, e2]
  show (a = b ∧ _) ∨ (a ≠ b ∧ _) ↔ _
  simp [hne]

theorem ltList_end {α : Type} {lt : α → α → Prop} {xs zs : List α} {j : Nat} (h1 : j ≤ xs.length) (h2 : j ≤ zs.length) (he : j = xs.length ∨ j = zs.length) (h : ∀ m, m < j → xs[m]? = zs[m]?) : ltList lt xs zs ↔ xs.length < zs.length := by
  rw [ltList_drop j xs zs h1 h2 h]
  rcases he with rfl | rfl
  · rw [List.drop_length]
    cases hb : zs.drop xs.length with
    | nil =>
      have := List.drop_eq_nil_iff.1 hb
      exact ⟨fun h => absurd h (by show ¬ False; simp), fun h => by omega⟩
    | cons b r =>
      have : xs.length < zs.length := Nat.lt_of_not_le fun hn => by rw [List.drop_eq_nil_of_le hn] at hb; cases hb
      exact ⟨fun _ => this, fun _ => trivial⟩
  · rw [List.drop_length]
    cases ha : xs.drop zs.length with
    | nil => exact ⟨fun h => absurd h (by show ¬ False; simp), fun h => by omega⟩
    | cons a r => exact ⟨fun h => absurd h (by show ¬ False; simp), fun h => by omega⟩

/-- A term of its four fields. -/
def mk {d : Nat} (k n : Int) (s : ByteArray) (ts : List (Tm d)) : Tm (d + 1) := (k, n, s, ts)

theorem Tm.eta {d : Nat} (t : Tm (d + 1)) : mk t.K t.N t.S t.L = t := rfl

def LessC (f d : Nat) : Prop := ∀ (k n : Int) (s : ByteArray) (l : Value) (ts : List (Tm d)) (k' n' : Int) (s' : ByteArray) (l' : Value) (ts' : List (Tm d)) (w : World), RdL d w l ts → RdL d w l' ts' → WfL d ts → WfL d ts' →
  Calls Try.prog f #[.agg #[.int .i64 k, .int .i64 n, .string s, l], .agg #[.int .i64 k', .int .i64 n', .string s', l']] w fun e w' => ∃ b : Bool, e = .returned (.bool b) ∧ (b = true ↔ Lt (d + 1) (mk k n s ts) (mk k' n' s' ts')) ∧ Below w.heap.size w w'

theorem lt_k {d : Nat} {k n : Int} {s : ByteArray} {ts : List (Tm d)} {k' n' : Int} {s' : ByteArray} {ts' : List (Tm d)} (h : k ≠ k') : Lt (d + 1) (mk k n s ts) (mk k' n' s' ts') ↔ k < k' :=
  ⟨fun h1 => by rcases h1 with h1 | h1; exact h1.2; exact absurd h1.1 h, fun h1 => .inl ⟨h, h1⟩⟩
theorem lt_n {d : Nat} {k n : Int} {s : ByteArray} {ts : List (Tm d)} {n' : Int} {s' : ByteArray} {ts' : List (Tm d)} (h : k = 1 ∨ k = 3) : Lt (d + 1) (mk k n s ts) (mk k n' s' ts') ↔ n < n' := by
  constructor
  · intro h1
    rcases h1 with h1 | ⟨_, h1 | h1 | h1 | h1⟩
    · exact absurd rfl h1.1
    · exact h1.2
    · have : k = 2 := h1.1; omega
    · have : k = 4 := h1.1.1; omega
    · exact absurd h h1.1.1
  · exact fun h1 => .inr ⟨rfl, .inl ⟨h, h1⟩⟩
theorem lt_s {d : Nat} {k n : Int} {s : ByteArray} {ts : List (Tm d)} {n' : Int} {s' : ByteArray} {ts' : List (Tm d)} (h : k = 2) : Lt (d + 1) (mk k n s ts) (mk k n' s' ts') ↔ BLt s s' := by
  constructor
  · intro h1
    rcases h1 with h1 | ⟨_, h1 | h1 | h1 | h1⟩
    · exact absurd rfl h1.1
    · have h2 : k = 1 ∨ k = 3 := h1.1; omega
    · exact h1.2
    · have : k = 4 := h1.1.1; omega
    · exact absurd h h1.1.2.1
  · exact fun h1 => .inr ⟨rfl, .inr (.inl ⟨h, h1⟩)⟩
theorem lt_l {d : Nat} {k n : Int} {s : ByteArray} {ts : List (Tm d)} {n' : Int} {s' : ByteArray} {ts' : List (Tm d)} (h : k = 4 ∧ ts.length ≠ ts'.length) : Lt (d + 1) (mk k n s ts) (mk k n' s' ts') ↔ ts.length < ts'.length := by
  constructor
  · intro h1
    rcases h1 with h1 | ⟨_, h1 | h1 | h1 | h1⟩
    · exact absurd rfl h1.1
    · have h2 : k = 1 ∨ k = 3 := h1.1; omega
    · have : k = 2 := h1.1; omega
    · exact h1.2
    · exact absurd h h1.1.2.2
  · exact fun h1 => .inr ⟨rfl, .inr (.inr (.inl ⟨h, h1⟩))⟩
theorem lt_e {d : Nat} {k n : Int} {s : ByteArray} {ts : List (Tm d)} {n' : Int} {s' : ByteArray} {ts' : List (Tm d)} (h1 : ¬ (k = 1 ∨ k = 3)) (h2 : ¬ k = 2) (h3 : ¬ (k = 4 ∧ ts.length ≠ ts'.length)) : Lt (d + 1) (mk k n s ts) (mk k n' s' ts') ↔ ltList (Lt d) ts ts' := by
  constructor
  · intro h
    rcases h with h | ⟨_, h | h | h | h⟩
    · exact absurd rfl h.1
    · exact absurd h.1 h1
    · exact absurd h.1 h2
    · exact absurd h.1 h3
    · exact h.2
  · exact fun h => .inr ⟨rfl, .inr (.inr (.inr ⟨⟨h1, h2, h3⟩, h⟩))⟩

set_option maxHeartbeats 1000000 in
/-- What is told without a look at what is in the terms. -/
theorem specLess_top (d : Nat) (k n : Int) (s : ByteArray) (a : Option Addr) (c : Nat) (ts : List (Tm d)) (k' n' : Int) (s' : ByteArray) (a' : Option Addr) (c' : Nat) (ts' : List (Tm d)) (w : World) (hl : ts.length ≤ 9223372036854775807) (hl' : ts'.length ≤ 9223372036854775807)
    (h : k ≠ k' ∨ k = 1 ∨ k = 3 ∨ k = 2 ∨ (k = 4 ∧ ts.length ≠ ts'.length)) :
    Calls Try.prog 14 #[.agg #[.int .i64 k, .int .i64 n, .string s, .slice a ts.length c], .agg #[.int .i64 k', .int .i64 n', .string s', .slice a' ts'.length c']] w fun e w' => ∃ b : Bool, e = .returned (.bool b) ∧ (b = true ↔ Lt (d + 1) (mk k n s ts) (mk k' n' s' ts')) ∧ Below w.heap.size w w' := by
  have hA : Below w.heap.size w ((w.alloc (.cells #[.int .i64 k, .int .i64 n, .string s, .slice a ts.length c] 26)).alloc (.cells #[.int .i64 k', .int .i64 n', .string s', .slice a' ts'.length c'] 26)) := ((Below.refl _ _).alloc (Nat.le_refl _) _).alloc (by simp) _
  by_cases h0 : k = k'
  · subst h0
    have e0 : (k != k) = false := by simp
    by_cases h1 : k = 1 ∨ k = 3
    · rw [lt_n h1]
      by_cases h11 : k = 1
      · have e1 : (k == 1) = true := by simp [h11]
        clear h h1 h11
        go_enter Try.func14, Try.ntmps14
        go_wp2
        all_goals
          go_ret
          exact ⟨_, rfl, by simp, hA⟩
      · have e1 : (k == 1) = false := by simp [h11]
        have e3 : (k == 3) = true := by simp; omega
        clear h h1 h11
        go_enter Try.func14, Try.ntmps14
        go_wp2
        all_goals
          go_ret
          exact ⟨_, rfl, by simp, hA⟩
    · have e1 : (k == 1) = false := by simp; omega
      have e3 : (k == 3) = false := by simp; omega
      by_cases h2 : k = 2
      · rw [lt_s h2]
        have e2 : (k == 2) = true := by simp [h2]
        clear h h1 h2
        go_enter Try.func14, Try.ntmps14
        go_wp2
        go_ret
        exact ⟨_, rfl, Iff.rfl, hA⟩
      · have e2 : (k == 2) = false := by simp [h2]
        have h4 : k = 4 ∧ ts.length ≠ ts'.length := by
          rcases h with h | h | h | h | h
          · exact absurd rfl h
          · omega
          · omega
          · omega
          · exact h
        rw [lt_l h4]
        have e4 : (k == 4) = true := by simp [h4.1]
        have e5 : ((ts.length : Int) != (ts'.length : Int)) = true := by rw [bne_iff_ne]; have := h4.2; omega
        have HI : Hid (decide ((ts.length : Int) < (ts'.length : Int)) = true ↔ ts.length < ts'.length) := by show _ ↔ _; rw [decide_eq_true_iff]; omega
        clear h h1 h2 h4
        go_enter Try.func14, Try.ntmps14
        go_wp2
        all_goals
          go_ret
          exact ⟨_, rfl, by first | exact HI.out | simp, hA⟩
  · rw [lt_k h0]
    have e0 : (k != k') = true := by rw [bne_iff_ne]; exact h0
    clear h
    go_enter Try.func14, Try.ntmps14
    go_wp2
    all_goals
      go_ret
      exact ⟨_, rfl, by simp, hA⟩

set_option maxHeartbeats 2000000 in
theorem specLess_a (d : Nat) (ih : LessC 14 d) (k n : Int) (s : ByteArray) (l : Value) (ts : List (Tm (d + 1))) (n' : Int) (s' : ByteArray) (l' : Value) (ts' : List (Tm (d + 1))) (w : World) (hr : RdL (d + 1) w l ts) (hr' : RdL (d + 1) w l' ts') (hw : WfL (d + 1) ts) (hw' : WfL (d + 1) ts')
    (g1 : (k == 1) = false) (g3 : (k == 3) = false) (g2 : (k == 2) = false) (g4 : (k == 4) = true) (g5 : ((ts.length : Int) != (ts'.length : Int)) = false) :
    Calls Try.prog 14 #[.agg #[.int .i64 k, .int .i64 n, .string s, l], .agg #[.int .i64 k, .int .i64 n', .string s', l']] w fun e w' => ∃ b : Bool, e = .returned (.bool b) ∧ (b = true ↔ ltList (Lt (d + 1)) ts ts') ∧ Below w.heap.size w w' := by
  obtain ⟨a, c, rfl, hel⟩ := hr
  obtain ⟨a', c', rfl, hel'⟩ := hr'
  have HE : Hid (∀ (i : Nat) (t : Tm (d + 1)), ts[i]? = some t → ∃ b o lv, a = some ⟨b, o, none⟩ ∧ Four w b (o + i * 4) t.K t.N t.S lv ∧ RdL d w lv t.L) := hel
  have HE' : Hid (∀ (i : Nat) (t : Tm (d + 1)), ts'[i]? = some t → ∃ b o lv, a' = some ⟨b, o, none⟩ ∧ Four w b (o + i * 4) t.K t.N t.S lv ∧ RdL d w lv t.L) := hel'
  have HW : Hid (WfL (d + 1) ts) := hw
  have HW' : Hid (WfL (d + 1) ts') := hw'
  have hm : ts.length ≤ 9223372036854775807 := hw.1
  have hm' : ts'.length ≤ 9223372036854775807 := hw'.1
  obtain ⟨len, hl⟩ : ∃ len, ts.length = len := ⟨_, rfl⟩
  obtain ⟨len', hl'⟩ : ∃ len, ts'.length = len := ⟨_, rfl⟩
  have HL : Hid (ts.length = len) := hl
  have HL' : Hid (ts'.length = len') := hl'
  rw [hl] at hm ⊢
  rw [hl'] at hm' ⊢
  rw [hl, hl'] at g5
  obtain ⟨W, hW⟩ : ∃ W, W = (w.alloc (.cells #[.int .i64 k, .int .i64 n, .string s, .slice a len c] 26)).alloc (.cells #[.int .i64 k, .int .i64 n', .string s', .slice a' len' c'] 26) := ⟨_, rfl⟩
  have hA : Below w.heap.size w W := by rw [hW]; exact ((Below.refl _ _).alloc (Nat.le_refl _) _).alloc (by simp) _
  have hWz : W.heap.size = w.heap.size + 2 := by rw [hW]; simp
  have hB1 : W.heap[w.heap.size]? = some (.cells #[.int .i64 k, .int .i64 n, .string s, .slice a len c] 26 (0, 0)) := by rw [hW]; exact (heap_two w _ _).1
  have hB2 : W.heap[w.heap.size + 1]? = some (.cells #[.int .i64 k, .int .i64 n', .string s', .slice a' len' c'] 26 (0, 0)) := by rw [hW]; exact (heap_two w _ _).2
  have HSM : Hid (Sm 25 d) := specSame_any d
  have HLS : Hid (LessC 14 d) := ih
  have HB1 : Hid (W.heap[w.heap.size]? = _) := hB1
  have HB2 : Hid (W.heap[w.heap.size + 1]? = _) := hB2
  clear ih hel hel' hw hw' hl hl' hB1 hB2
  go_enter Try.func14, Try.ntmps14
  go_wp2_with fail
  rw [← hW]
  clear hW
  go_loopw [5] (fun i wr => ∃ j : Nat, j ≤ len ∧ j ≤ len' ∧ i = .int .i64 j ∧ Below W.heap.size W wr ∧ Hid (∀ m, m < j → ts[m]? = ts'[m]?)) (fun i _ => len - (intOf i).toNat)
  case atStart => exact ⟨0, Nat.zero_le _, Nat.zero_le _, rfl, Below.refl _ _, fun m hm => by omega⟩
  case round =>
    obtain ⟨j, hj, hj', rfl, hb, HS⟩ := hrel
    have c1 : wr.cell? ⟨w.heap.size, 3, none⟩ = some (.slice a len c) := by rw [cell_of_row wr _ 3 _ _ _ ((hb.block _ (by omega)).trans HB1.out)]; rfl
    have c2 : wr.cell? ⟨w.heap.size + 1, 3, none⟩ = some (.slice a' len' c') := by rw [cell_of_row wr _ 3 _ _ _ ((hb.block _ (by omega)).trans HB2.out)]; rfl
    have hbw : Below w.heap.size w wr := hA.trans (hb.mono (by omega))
    by_cases hjl : j < len ∧ j < len'
    · obtain ⟨hjl1, hjl2⟩ := hjl
      obtain ⟨t, ht⟩ : ∃ t, ts[j]? = some t := ⟨_, List.getElem?_eq_getElem (by rw [HL.out]; exact hjl1)⟩
      obtain ⟨t', ht'⟩ : ∃ t, ts'[j]? = some t := ⟨_, List.getElem?_eq_getElem (by rw [HL'.out]; exact hjl2)⟩
      obtain ⟨b1, o1, lv1, rfl, F1, L1⟩ := HE.out j t ht
      obtain ⟨b2, o2, lv2, rfl, F2, L2⟩ := HE'.out j t' ht'
      obtain ⟨_, _, _, hwt⟩ := HW.out.2 t (List.mem_of_getElem? ht)
      obtain ⟨_, _, _, hwt'⟩ := HW'.out.2 t' (List.mem_of_getElem? ht')
      have F1' := F1.later hbw
      have F2' := F2.later hbw
      have L1' := L1.later hbw
      have L2' := L2.later hbw
      obtain ⟨x1, y1, z1, hs1⟩ := L1'.shape
      obtain ⟨x2, y2, z2, hs2⟩ := L2'.shape
      rw [hs1] at F1' L1'
      rw [hs2] at F2' L2'
      have HF1 : Hid (Four wr b1 (o1 + j * 4) t.K t.N t.S (.slice x1 y1 z1)) := F1'
      have HF2 : Hid (Four wr b2 (o2 + j * 4) t'.K t'.N t'.S (.slice x2 y2 z2)) := F2'
      obtain ⟨f0, f1, f2, f3⟩ := F1'
      obtain ⟨p0, p1, p2, p3⟩ := F2'
      have hi1 : (j : Int) < (len : Int) := by omega
      have hi2 : (j : Int) < (len' : Int) := by omega
      have HC : Hid (∀ V : World, Below wr.heap.size wr V → Calls Try.prog 25 #[.agg #[.int .i64 t.K, .int .i64 t.N, .string t.S, .slice x1 y1 z1], .agg #[.int .i64 t'.K, .int .i64 t'.N, .string t'.S, .slice x2 y2 z2]] V fun e w' => ∃ b : Bool, e = .returned (.bool b) ∧ (b = true ↔ t.K = t'.K ∧ t.N = t'.N ∧ t.S = t'.S ∧ t.L = t'.L) ∧ Below V.heap.size V w') :=
        fun V hV => HSM.out t.K t.N t.S _ t.L t'.K t'.N t'.S _ t'.L V (L1'.later hV) (L2'.later hV) hwt hwt'
      have HD : Hid (∀ V : World, Below wr.heap.size wr V → Calls Try.prog 14 #[.agg #[.int .i64 t.K, .int .i64 t.N, .string t.S, .slice x1 y1 z1], .agg #[.int .i64 t'.K, .int .i64 t'.N, .string t'.S, .slice x2 y2 z2]] V fun e w' => ∃ b : Bool, e = .returned (.bool b) ∧ (b = true ↔ Lt (d + 1) t t') ∧ Below V.heap.size V w') :=
        fun V hV => HLS.out t.K t.N t.S _ t.L t'.K t'.N t'.S _ t'.L V (L1'.later hV) (L2'.later hV) hwt hwt'
      have HT : Hid (ts[j]? = some t ∧ ts'[j]? = some t') := ⟨ht, ht'⟩
      clear F1 F2 L1 L2 L1' L2' hs1 hs2 ht ht' hwt hwt' hbw HE HE' HW HW' HSM HLS
      go_upto_region 12 with fail
      go_cut [85] (fun v wx => ∃ b : Bool, v = .bool (!b) ∧ Hid (b = true ↔ t.K = t'.K ∧ t.N = t'.N ∧ t.S = t'.S ∧ t.L = t'.L) ∧ Below wr.heap.size wr wx)
      case first =>
        go_region_with (go_at_call 25; refine (HC.out _ ?_).mono ?_; exact (Below.refl _ _).drew; rintro e V ⟨b, rfl, hbi, hB⟩)
        all_goals
          go_wp2_with fail
          go_meet
          case rel => exact ⟨b, rfl, hbi, (Below.refl _ _).drew.trans hB⟩
      case rest =>
        obtain ⟨b, rfl, HBI, hbr⟩ := hcut
        have HB3 : Hid (Below W.heap.size W wc) := hb.trans (hbr.mono hb.size)
        have HBR : Hid (Below wr.heap.size wr wc) := hbr
        clear f0 f1 f2 f3 p0 p1 p2 p3 hb
        cases b
        · have q1 := cell_later hbr c1
          have q2 := cell_later hbr c2
          obtain ⟨r0, r1, r2, r3⟩ := HF1.out.later hbr
          obtain ⟨v0, v1, v2, v3⟩ := HF2.out.later hbr
          have HNE : Hid (t ≠ t') := fun e => by
            have := HBI.out.2 (by rw [e]; exact ⟨rfl, rfl, rfl, rfl⟩)
            cases this
          have HLT : Hid (ltList (Lt (d + 1)) ts ts' ↔ Lt (d + 1) t t') := ltList_at HT.out.1 HT.out.2 HS.out HNE.out
          clear c1 c2 hbr
          go_wp2_with fail
          go_region_with (go_at_call 14; refine (HD.out _ ?_).mono ?_; exact HBR.out.drew; rintro e V2 ⟨b2, rfl, hbi2, hB3⟩)
          all_goals
            have hbf : Below w.heap.size w V2 := hA.trans ((HB3.out.drew.trans (hB3.mono HB3.out.drew.size)).mono (by omega))
            have HI2 : Hid (b2 = true ↔ ltList (Lt (d + 1)) ts ts') := hbi2.trans HLT.out.symm
            clear hB3 hbi2 q1 q2 r0 r1 r2 r3 v0 v1 v2 v3
            go_wp2_with fail
            go_ret
            exact ⟨b2, rfl, HI2.out, hbf⟩
        · have HS2 : Hid (∀ m, m < j + 1 → ts[m]? = ts'[m]?) := fun m hm => by
            by_cases hmj : m < j
            · exact HS.out m hmj
            · obtain rfl : m = j := by omega
              rw [HT.out.1, HT.out.2]
              obtain ⟨e1, e2, e3, e4⟩ := HBI.out.1 rfl
              rw [tm_ext e1 e2 e3 e4]
          clear c1 c2 hbr
          go_wp2
          go_roundw
          case rel => exact ⟨j + 1, by omega, by omega, by go_num, HB3.out, HS2⟩
          case measure => simp [intOf]; omega
    · have HF : Hid (ltList (Lt (d + 1)) ts ts' ↔ len < len') := by
        show _ ↔ _
        rw [ltList_end (j := j) (by rw [HL.out]; exact hj) (by rw [HL'.out]; exact hj') (by rw [HL.out, HL'.out]; omega) HS.out, HL.out, HL'.out]
      clear hb HE HE' HW HW' HSM HLS
      by_cases hj1 : j < len
      · have hj2 : ¬ j < len' := fun e => hjl ⟨hj1, e⟩
        have hi1 : (j : Int) < (len : Int) := by omega
        have hi2 : ¬ (j : Int) < (len' : Int) := by omega
        have hi3 : decide (len < len') = false := by simp; omega
        have HN : Hid (¬ ltList (Lt (d + 1)) ts ts') := fun e => by have := HF.out.1 e; omega
        clear hjl
        go_wp2_with fail
        go_ret
        first | exact ⟨false, rfl, iff_no HN.out, hbw⟩ | exact .inl ⟨rfl, HN.out, hbw⟩ | exact .inl ⟨congrArg (fun b => Ending.returned (.bool b)) hi3, HN.out, hbw⟩
      · have hi1 : ¬ (j : Int) < (len : Int) := by omega
        clear hjl
        by_cases hll : len < len'
        · have hi3 : decide (len < len') = true := by simp; omega
          have HN : Hid (ltList (Lt (d + 1)) ts ts') := HF.out.2 hll
          go_wp2_with fail
          go_ret
          first | exact ⟨true, rfl, iff_yes HN.out, hbw⟩ | exact .inr ⟨rfl, HN.out, hbw⟩ | exact .inr ⟨congrArg (fun b => Ending.returned (.bool b)) hi3, HN.out, hbw⟩
        · have hi3 : decide (len < len') = false := by simp; omega
          have HN : Hid (¬ ltList (Lt (d + 1)) ts ts') := fun e => hll (HF.out.1 e)
          go_wp2_with fail
          go_ret
          first | exact ⟨false, rfl, iff_no HN.out, hbw⟩ | exact .inl ⟨rfl, HN.out, hbw⟩ | exact .inl ⟨congrArg (fun b => Ending.returned (.bool b)) hi3, HN.out, hbw⟩

set_option maxHeartbeats 2000000 in
theorem specLess_b (d : Nat) (ih : LessC 14 d) (k n : Int) (s : ByteArray) (l : Value) (ts : List (Tm (d + 1))) (n' : Int) (s' : ByteArray) (l' : Value) (ts' : List (Tm (d + 1))) (w : World) (hr : RdL (d + 1) w l ts) (hr' : RdL (d + 1) w l' ts') (hw : WfL (d + 1) ts) (hw' : WfL (d + 1) ts')
    (g1 : (k == 1) = false) (g3 : (k == 3) = false) (g2 : (k == 2) = false) (g4 : (k == 4) = false) :
    Calls Try.prog 14 #[.agg #[.int .i64 k, .int .i64 n, .string s, l], .agg #[.int .i64 k, .int .i64 n', .string s', l']] w fun e w' => ∃ b : Bool, e = .returned (.bool b) ∧ (b = true ↔ ltList (Lt (d + 1)) ts ts') ∧ Below w.heap.size w w' := by
  obtain ⟨a, c, rfl, hel⟩ := hr
  obtain ⟨a', c', rfl, hel'⟩ := hr'
  have HE : Hid (∀ (i : Nat) (t : Tm (d + 1)), ts[i]? = some t → ∃ b o lv, a = some ⟨b, o, none⟩ ∧ Four w b (o + i * 4) t.K t.N t.S lv ∧ RdL d w lv t.L) := hel
  have HE' : Hid (∀ (i : Nat) (t : Tm (d + 1)), ts'[i]? = some t → ∃ b o lv, a' = some ⟨b, o, none⟩ ∧ Four w b (o + i * 4) t.K t.N t.S lv ∧ RdL d w lv t.L) := hel'
  have HW : Hid (WfL (d + 1) ts) := hw
  have HW' : Hid (WfL (d + 1) ts') := hw'
  have hm : ts.length ≤ 9223372036854775807 := hw.1
  have hm' : ts'.length ≤ 9223372036854775807 := hw'.1
  obtain ⟨len, hl⟩ : ∃ len, ts.length = len := ⟨_, rfl⟩
  obtain ⟨len', hl'⟩ : ∃ len, ts'.length = len := ⟨_, rfl⟩
  have HL : Hid (ts.length = len) := hl
  have HL' : Hid (ts'.length = len') := hl'
  rw [hl] at hm ⊢
  rw [hl'] at hm' ⊢

  obtain ⟨W, hW⟩ : ∃ W, W = (w.alloc (.cells #[.int .i64 k, .int .i64 n, .string s, .slice a len c] 26)).alloc (.cells #[.int .i64 k, .int .i64 n', .string s', .slice a' len' c'] 26) := ⟨_, rfl⟩
  have hA : Below w.heap.size w W := by rw [hW]; exact ((Below.refl _ _).alloc (Nat.le_refl _) _).alloc (by simp) _
  have hWz : W.heap.size = w.heap.size + 2 := by rw [hW]; simp
  have hB1 : W.heap[w.heap.size]? = some (.cells #[.int .i64 k, .int .i64 n, .string s, .slice a len c] 26 (0, 0)) := by rw [hW]; exact (heap_two w _ _).1
  have hB2 : W.heap[w.heap.size + 1]? = some (.cells #[.int .i64 k, .int .i64 n', .string s', .slice a' len' c'] 26 (0, 0)) := by rw [hW]; exact (heap_two w _ _).2
  have HSM : Hid (Sm 25 d) := specSame_any d
  have HLS : Hid (LessC 14 d) := ih
  have HB1 : Hid (W.heap[w.heap.size]? = _) := hB1
  have HB2 : Hid (W.heap[w.heap.size + 1]? = _) := hB2
  clear ih hel hel' hw hw' hl hl' hB1 hB2
  go_enter Try.func14, Try.ntmps14
  go_wp2_with fail
  rw [← hW]
  clear hW
  go_loopw [5] (fun i wr => ∃ j : Nat, j ≤ len ∧ j ≤ len' ∧ i = .int .i64 j ∧ Below W.heap.size W wr ∧ Hid (∀ m, m < j → ts[m]? = ts'[m]?)) (fun i _ => len - (intOf i).toNat)
  case atStart => exact ⟨0, Nat.zero_le _, Nat.zero_le _, rfl, Below.refl _ _, fun m hm => by omega⟩
  case round =>
    obtain ⟨j, hj, hj', rfl, hb, HS⟩ := hrel
    have c1 : wr.cell? ⟨w.heap.size, 3, none⟩ = some (.slice a len c) := by rw [cell_of_row wr _ 3 _ _ _ ((hb.block _ (by omega)).trans HB1.out)]; rfl
    have c2 : wr.cell? ⟨w.heap.size + 1, 3, none⟩ = some (.slice a' len' c') := by rw [cell_of_row wr _ 3 _ _ _ ((hb.block _ (by omega)).trans HB2.out)]; rfl
    have hbw : Below w.heap.size w wr := hA.trans (hb.mono (by omega))
    by_cases hjl : j < len ∧ j < len'
    · obtain ⟨hjl1, hjl2⟩ := hjl
      obtain ⟨t, ht⟩ : ∃ t, ts[j]? = some t := ⟨_, List.getElem?_eq_getElem (by rw [HL.out]; exact hjl1)⟩
      obtain ⟨t', ht'⟩ : ∃ t, ts'[j]? = some t := ⟨_, List.getElem?_eq_getElem (by rw [HL'.out]; exact hjl2)⟩
      obtain ⟨b1, o1, lv1, rfl, F1, L1⟩ := HE.out j t ht
      obtain ⟨b2, o2, lv2, rfl, F2, L2⟩ := HE'.out j t' ht'
      obtain ⟨_, _, _, hwt⟩ := HW.out.2 t (List.mem_of_getElem? ht)
      obtain ⟨_, _, _, hwt'⟩ := HW'.out.2 t' (List.mem_of_getElem? ht')
      have F1' := F1.later hbw
      have F2' := F2.later hbw
      have L1' := L1.later hbw
      have L2' := L2.later hbw
      obtain ⟨x1, y1, z1, hs1⟩ := L1'.shape
      obtain ⟨x2, y2, z2, hs2⟩ := L2'.shape
      rw [hs1] at F1' L1'
      rw [hs2] at F2' L2'
      have HF1 : Hid (Four wr b1 (o1 + j * 4) t.K t.N t.S (.slice x1 y1 z1)) := F1'
      have HF2 : Hid (Four wr b2 (o2 + j * 4) t'.K t'.N t'.S (.slice x2 y2 z2)) := F2'
      obtain ⟨f0, f1, f2, f3⟩ := F1'
      obtain ⟨p0, p1, p2, p3⟩ := F2'
      have hi1 : (j : Int) < (len : Int) := by omega
      have hi2 : (j : Int) < (len' : Int) := by omega
      have HC : Hid (∀ V : World, Below wr.heap.size wr V → Calls Try.prog 25 #[.agg #[.int .i64 t.K, .int .i64 t.N, .string t.S, .slice x1 y1 z1], .agg #[.int .i64 t'.K, .int .i64 t'.N, .string t'.S, .slice x2 y2 z2]] V fun e w' => ∃ b : Bool, e = .returned (.bool b) ∧ (b = true ↔ t.K = t'.K ∧ t.N = t'.N ∧ t.S = t'.S ∧ t.L = t'.L) ∧ Below V.heap.size V w') :=
        fun V hV => HSM.out t.K t.N t.S _ t.L t'.K t'.N t'.S _ t'.L V (L1'.later hV) (L2'.later hV) hwt hwt'
      have HD : Hid (∀ V : World, Below wr.heap.size wr V → Calls Try.prog 14 #[.agg #[.int .i64 t.K, .int .i64 t.N, .string t.S, .slice x1 y1 z1], .agg #[.int .i64 t'.K, .int .i64 t'.N, .string t'.S, .slice x2 y2 z2]] V fun e w' => ∃ b : Bool, e = .returned (.bool b) ∧ (b = true ↔ Lt (d + 1) t t') ∧ Below V.heap.size V w') :=
        fun V hV => HLS.out t.K t.N t.S _ t.L t'.K t'.N t'.S _ t'.L V (L1'.later hV) (L2'.later hV) hwt hwt'
      have HT : Hid (ts[j]? = some t ∧ ts'[j]? = some t') := ⟨ht, ht'⟩
      clear F1 F2 L1 L2 L1' L2' hs1 hs2 ht ht' hwt hwt' hbw HE HE' HW HW' HSM HLS
      go_upto_region 12 with fail
      go_cut [85] (fun v wx => ∃ b : Bool, v = .bool (!b) ∧ Hid (b = true ↔ t.K = t'.K ∧ t.N = t'.N ∧ t.S = t'.S ∧ t.L = t'.L) ∧ Below wr.heap.size wr wx)
      case first =>
        go_region_with (go_at_call 25; refine (HC.out _ ?_).mono ?_; exact (Below.refl _ _).drew; rintro e V ⟨b, rfl, hbi, hB⟩)
        all_goals
          go_wp2_with fail
          go_meet
          case rel => exact ⟨b, rfl, hbi, (Below.refl _ _).drew.trans hB⟩
      case rest =>
        obtain ⟨b, rfl, HBI, hbr⟩ := hcut
        have HB3 : Hid (Below W.heap.size W wc) := hb.trans (hbr.mono hb.size)
        have HBR : Hid (Below wr.heap.size wr wc) := hbr
        clear f0 f1 f2 f3 p0 p1 p2 p3 hb
        cases b
        · have q1 := cell_later hbr c1
          have q2 := cell_later hbr c2
          obtain ⟨r0, r1, r2, r3⟩ := HF1.out.later hbr
          obtain ⟨v0, v1, v2, v3⟩ := HF2.out.later hbr
          have HNE : Hid (t ≠ t') := fun e => by
            have := HBI.out.2 (by rw [e]; exact ⟨rfl, rfl, rfl, rfl⟩)
            cases this
          have HLT : Hid (ltList (Lt (d + 1)) ts ts' ↔ Lt (d + 1) t t') := ltList_at HT.out.1 HT.out.2 HS.out HNE.out
          clear c1 c2 hbr
          go_wp2_with fail
          go_region_with (go_at_call 14; refine (HD.out _ ?_).mono ?_; exact HBR.out.drew; rintro e V2 ⟨b2, rfl, hbi2, hB3⟩)
          all_goals
            have hbf : Below w.heap.size w V2 := hA.trans ((HB3.out.drew.trans (hB3.mono HB3.out.drew.size)).mono (by omega))
            have HI2 : Hid (b2 = true ↔ ltList (Lt (d + 1)) ts ts') := hbi2.trans HLT.out.symm
            clear hB3 hbi2 q1 q2 r0 r1 r2 r3 v0 v1 v2 v3
            go_wp2_with fail
            go_ret
            exact ⟨b2, rfl, HI2.out, hbf⟩
        · have HS2 : Hid (∀ m, m < j + 1 → ts[m]? = ts'[m]?) := fun m hm => by
            by_cases hmj : m < j
            · exact HS.out m hmj
            · obtain rfl : m = j := by omega
              rw [HT.out.1, HT.out.2]
              obtain ⟨e1, e2, e3, e4⟩ := HBI.out.1 rfl
              rw [tm_ext e1 e2 e3 e4]
          clear c1 c2 hbr
          go_wp2
          go_roundw
          case rel => exact ⟨j + 1, by omega, by omega, by go_num, HB3.out, HS2⟩
          case measure => simp [intOf]; omega
    · have HF : Hid (ltList (Lt (d + 1)) ts ts' ↔ len < len') := by
        show _ ↔ _
        rw [ltList_end (j := j) (by rw [HL.out]; exact hj) (by rw [HL'.out]; exact hj') (by rw [HL.out, HL'.out]; omega) HS.out, HL.out, HL'.out]
      clear hb HE HE' HW HW' HSM HLS
      by_cases hj1 : j < len
      · have hj2 : ¬ j < len' := fun e => hjl ⟨hj1, e⟩
        have hi1 : (j : Int) < (len : Int) := by omega
        have hi2 : ¬ (j : Int) < (len' : Int) := by omega
        have hi3 : decide (len < len') = false := by simp; omega
        have HN : Hid (¬ ltList (Lt (d + 1)) ts ts') := fun e => by have := HF.out.1 e; omega
        clear hjl
        go_wp2_with fail
        go_ret
        first | exact ⟨false, rfl, iff_no HN.out, hbw⟩ | exact .inl ⟨rfl, HN.out, hbw⟩ | exact .inl ⟨congrArg (fun b => Ending.returned (.bool b)) hi3, HN.out, hbw⟩
      · have hi1 : ¬ (j : Int) < (len : Int) := by omega
        clear hjl
        by_cases hll : len < len'
        · have hi3 : decide (len < len') = true := by simp; omega
          have HN : Hid (ltList (Lt (d + 1)) ts ts') := HF.out.2 hll
          go_wp2_with fail
          go_ret
          first | exact ⟨true, rfl, iff_yes HN.out, hbw⟩ | exact .inr ⟨rfl, HN.out, hbw⟩ | exact .inr ⟨congrArg (fun b => Ending.returned (.bool b)) hi3, HN.out, hbw⟩
        · have hi3 : decide (len < len') = false := by simp; omega
          have HN : Hid (¬ ltList (Lt (d + 1)) ts ts') := fun e => hll (HF.out.1 e)
          go_wp2_with fail
          go_ret
          first | exact ⟨false, rfl, iff_no HN.out, hbw⟩ | exact .inl ⟨rfl, HN.out, hbw⟩ | exact .inl ⟨congrArg (fun b => Ending.returned (.bool b)) hi3, HN.out, hbw⟩

set_option maxHeartbeats 1000000 in
theorem specLess_any : ∀ d, LessC 14 d := by
  intro d
  induction d with
  | zero =>
    intro k n s l ts k' n' s' l' ts' w hr hr' hw hw'
    obtain ⟨a, c, e1⟩ := hr.len
    obtain ⟨a', c', e2⟩ := hr'.len
    rw [e1, e2]
    by_cases h : k ≠ k' ∨ k = 1 ∨ k = 3 ∨ k = 2 ∨ (k = 4 ∧ ts.length ≠ ts'.length)
    · exact specLess_top 0 k n s a c ts k' n' s' a' c' ts' w hw.len hw'.len h
    · have hk : k = k' := Classical.byContradiction fun e => h (.inl e)
      subst hk
      have hz : ts.length = 0 := by
        cases ts with
        | nil => rfl
        | cons t _ => exact Empty.elim t
      have hz' : ts'.length = 0 := by
        cases ts' with
        | nil => rfl
        | cons t _ => exact Empty.elim t
      have HF : Hid (¬ Lt 1 (mk k n s ts) (mk k n' s' ts')) := by
        show ¬ _
        rw [lt_e (fun e => h (by rcases e with e | e; exact .inr (.inl e); exact .inr (.inr (.inl e)))) (fun e => h (.inr (.inr (.inr (.inl e))))) (fun e => h (.inr (.inr (.inr (.inr e)))))]
        cases ts with
        | nil => cases ts' with
          | nil => exact fun h => h
          | cons t _ => exact Empty.elim t
        | cons t _ => exact Empty.elim t
      have g1 : (k == 1) = false := by simp; exact fun e => h (.inr (.inl e))
      have g3 : (k == 3) = false := by simp; exact fun e => h (.inr (.inr (.inl e)))
      have g2 : (k == 2) = false := by simp; exact fun e => h (.inr (.inr (.inr (.inl e))))
      rw [hz, hz']
      have hA : Below w.heap.size w ((w.alloc (.cells #[.int .i64 k, .int .i64 n, .string s, .slice a 0 c] 26)).alloc (.cells #[.int .i64 k, .int .i64 n', .string s', .slice a' 0 c'] 26)) := ((Below.refl _ _).alloc (Nat.le_refl _) _).alloc (by simp) _
      clear h e1 e2 hr hr' hw hw'
      by_cases h4 : k = 4
      · have g4 : (k == 4) = true := by simp [h4]
        clear h4
        go_enter Try.func14, Try.ntmps14
        go_wp2
        refine wp_loop_rounds 1 ?_
        rw [rounds_succ]
        go_wp2
        go_ret
        exact ⟨false, rfl, iff_no HF.out, hA⟩
      · have g4 : (k == 4) = false := by simp [h4]
        clear h4
        go_enter Try.func14, Try.ntmps14
        go_wp2
        refine wp_loop_rounds 1 ?_
        rw [rounds_succ]
        go_wp2
        go_ret
        exact ⟨false, rfl, iff_no HF.out, hA⟩
  | succ d ih =>
    intro k n s l ts k' n' s' l' ts' w hr hr' hw hw'
    by_cases h : k ≠ k' ∨ k = 1 ∨ k = 3 ∨ k = 2 ∨ (k = 4 ∧ ts.length ≠ ts'.length)
    · obtain ⟨a, c, e1⟩ := hr.len
      obtain ⟨a', c', e2⟩ := hr'.len
      rw [e1, e2]
      exact specLess_top (d + 1) k n s a c ts k' n' s' a' c' ts' w hw.len hw'.len h
    · have hk : k = k' := Classical.byContradiction fun e => h (.inl e)
      subst hk
      rw [lt_e (fun e => h (by rcases e with e | e; exact .inr (.inl e); exact .inr (.inr (.inl e)))) (fun e => h (.inr (.inr (.inr (.inl e))))) (fun e => h (.inr (.inr (.inr (.inr e)))))]
      have g1 : (k == 1) = false := by simp; exact fun e => h (.inr (.inl e))
      have g3 : (k == 3) = false := by simp; exact fun e => h (.inr (.inr (.inl e)))
      have g2 : (k == 2) = false := by simp; exact fun e => h (.inr (.inr (.inr (.inl e))))
      have H4 : Hid (k = 4 → ts.length = ts'.length) := fun e => Classical.byContradiction fun e2 => h (.inr (.inr (.inr (.inr ⟨e, e2⟩))))
      by_cases h4 : k = 4
      · exact specLess_a d ih k n s l ts n' s' l' ts' w hr hr' hw hw' g1 g3 g2 (by simp [h4]) (by have := H4.out h4; simp [this])
      · exact specLess_b d ih k n s l ts n' s' l' ts' w hr hr' hw hw' g1 g3 g2 (by simp [h4])

end Go.Proofs.Ytbllnmafilabpaa
