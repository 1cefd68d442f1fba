/- How many terms there are, how deep they are, and that the model's two functions tell it. -/
import Derived.Test.YthjmbbpakidkdaaSm
namespace Go.Proofs.Ythjmbbpakidkdaa
open Go.RowKit
set_option linter.unusedVariables false

/-- How many terms are in a list, all storeys. -/
def cntL : (d : Nat) → List (Tm d) → Nat
  | 0, _ => 0
  | d + 1, ts => (ts.map fun t => 1 + cntL d t.L).sum

/-- How deep the deepest of a list is. -/
def depL : (d : Nat) → List (Tm d) → Nat
  | 0, _ => 0
  | d + 1, ts => (ts.map fun t => 1 + depL d t.L).foldl max 0

def cntP (d : Nat) (ts : List (Tm (d + 1))) (i : Nat) : Nat := ((ts.take i).map fun t => 1 + cntL d t.L).sum
def depP (d : Nat) (ts : List (Tm (d + 1))) (i : Nat) : Nat := ((ts.take i).map fun t => 1 + depL d t.L).foldl max 0

theorem cntP_succ (d : Nat) (ts : List (Tm (d + 1))) (i : Nat) (t : Tm (d + 1)) (h : ts[i]? = some t) : cntP d ts (i + 1) = cntP d ts i + (1 + cntL d t.L) := by
  have hl := (List.getElem?_eq_some_iff.1 h).1
  have he := (List.getElem?_eq_some_iff.1 h).2
  unfold cntP
  rw [List.take_succ_eq_append_getElem hl, he]
  simp
theorem depP_succ (d : Nat) (ts : List (Tm (d + 1))) (i : Nat) (t : Tm (d + 1)) (h : ts[i]? = some t) : depP d ts (i + 1) = max (depP d ts i) (1 + depL d t.L) := by
  have hl := (List.getElem?_eq_some_iff.1 h).1
  have he := (List.getElem?_eq_some_iff.1 h).2
  unfold depP
  rw [List.take_succ_eq_append_getElem hl, he]
  simp
theorem cntP_all (d : Nat) (ts : List (Tm (d + 1))) (i : Nat) (h : ts.length ≤ i) : cntP d ts i = cntL (d + 1) ts := by
  unfold cntP; rw [List.take_of_length_le h]; rfl
theorem depP_all (d : Nat) (ts : List (Tm (d + 1))) (i : Nat) (h : ts.length ≤ i) : depP d ts i = depL (d + 1) ts := by
  unfold depP; rw [List.take_of_length_le h]; rfl
theorem cntP_le (d : Nat) (ts : List (Tm (d + 1))) (i : Nat) : cntP d ts i ≤ cntL (d + 1) ts := by
  show _ ≤ (ts.map fun t => 1 + cntL d t.L).sum
  unfold cntP
  conv => rhs; rw [← List.take_append_drop i ts]
  rw [List.map_append, List.sum_append]
  omega

theorem cntL_szL : ∀ (d : Nat) (ts : List (Tm d)), cntL d ts ≤ szL d ts := by
  intro d
  induction d with
  | zero => intro ts; exact Nat.le_refl _
  | succ d ih =>
    intro ts
    show (ts.map fun t => 1 + cntL d t.L).sum ≤ ts.length + (ts.map fun t => t.S.size + szL d t.L).sum
    induction ts with
    | nil => simp
    | cons t r ih2 =>
      have := ih t.L
      simp only [List.map_cons, List.sum_cons, List.length_cons]
      omega

theorem foldl_max_ge (l : List Nat) : ∀ a, a ≤ l.foldl max a ∧ ∀ x ∈ l, x ≤ l.foldl max a := by
  induction l with
  | nil => intro a; exact ⟨Nat.le_refl _, fun x hx => by cases hx⟩
  | cons b r ih =>
    intro a
    have h := ih (max a b)
    refine ⟨by simp only [List.foldl_cons]; omega, fun x hx => ?_⟩
    rcases List.mem_cons.1 hx with rfl | hx
    · simp only [List.foldl_cons]; omega
    · simp only [List.foldl_cons]; exact h.2 x hx
theorem foldl_max_le (l : List Nat) : ∀ (a m : Nat), a ≤ m → (∀ x ∈ l, x ≤ m) → l.foldl max a ≤ m := by
  induction l with
  | nil => intro a m h _; exact h
  | cons b r ih =>
    intro a m h hx
    exact ih (max a b) m (by have := hx b (List.mem_cons_self ..); omega) fun x hx' => hx x (List.mem_cons_of_mem _ hx')

theorem depL_cntL : ∀ (d : Nat) (ts : List (Tm d)), depL d ts ≤ cntL d ts := by
  intro d
  induction d with
  | zero => intro ts; exact Nat.le_refl _
  | succ d ih =>
    intro ts
    refine foldl_max_le _ 0 _ (Nat.zero_le _) fun x hx => ?_
    obtain ⟨t, ht, rfl⟩ := List.mem_map.1 hx
    have h1 := ih t.L
    have h2 : ∀ (l : List (Tm (d + 1))), t ∈ l → 1 + cntL d t.L ≤ (l.map fun t => 1 + cntL d t.L).sum := by
      intro l hl
      induction l with
      | nil => cases hl
      | cons b r ih2 =>
        simp only [List.map_cons, List.sum_cons]
        rcases List.mem_cons.1 hl with rfl | hl
        · omega
        · have := ih2 hl; omega
    have := h2 ts ht
    show 1 + depL d t.L ≤ (ts.map fun t => 1 + cntL d t.L).sum
    omega

theorem depP_le (d : Nat) (ts : List (Tm (d + 1))) (i : Nat) : depP d ts i ≤ depL (d + 1) ts := by
  refine foldl_max_le _ 0 _ (Nat.zero_le _) fun x hx => ?_
  obtain ⟨t, ht, rfl⟩ := List.mem_map.1 hx
  exact (foldl_max_ge _ 0).2 _ (List.mem_map.2 ⟨t, List.mem_of_mem_take ht, rfl⟩)

/-- The contract of a function that tells a number of a term. -/
def Tells (f d : Nat) (g : (d : Nat) → List (Tm d) → Nat) : Prop := ∀ (k n : Int) (s : ByteArray) (l : Value) (ts : List (Tm d)) (w : World), RdL d w l ts → WfL d ts → cntL d ts ≤ 1099511627776 →
  Calls Try.prog f #[.agg #[.int .i64 k, .int .i64 n, .string s, l]] w fun e w' => e = .returned (.int .i64 (1 + g d ts : Nat)) ∧ Below w.heap.size w w'

theorem cnt_elem {d : Nat} {ts : List (Tm (d + 1))} {j : Nat} {t : Tm (d + 1)} (ht : ts[j]? = some t) (h : cntL (d + 1) ts ≤ 1099511627776) : cntL d t.L ≤ 1099511627776 := by
  have h1 := cntP_succ d ts j t ht
  have h2 := cntP_le d ts (j + 1)
  omega

set_option maxHeartbeats 1000000 in
theorem specCountOf_any : ∀ d, Tells 53 d cntL := by
  intro d
  induction d with
  | zero =>
    intro k n s l ts w hr hw hc
    obtain ⟨a, c, rfl⟩ := hr
    have hA : Below w.heap.size w (w.alloc (.cells #[.int .i64 k, .int .i64 n, .string s, .slice a 0 c] 26)) := (Below.refl _ _).alloc (Nat.le_refl _) _
    go_enter Try.func53, Try.ntmps53
    go_wp2
    refine wp_loop_rounds 1 ?_
    rw [rounds_succ]
    go_wp2
    go_ret
    exact ⟨rfl, hA⟩
  | succ d ih =>
    intro k n s l ts w hr hw hc
    obtain ⟨a, c, rfl, hel⟩ := hr
    have HE : Hid (∀ (i : Nat) (t : Tm (d + 1)), ts[i]? = some t → ∃ b o lv, a = some ⟨b, o, none⟩ ∧ Four w b (o + i * 4) t.K t.N t.S lv ∧ RdL d w lv t.L) := hel
    have HW : Hid (WfL (d + 1) ts) := hw
    have HCC : Hid (cntL (d + 1) ts ≤ 1099511627776) := hc
    have hm : ts.length ≤ 9223372036854775807 := hw.1
    obtain ⟨len, hl⟩ : ∃ len, ts.length = len := ⟨_, rfl⟩
    have HL : Hid (ts.length = len) := hl
    rw [hl] at hm ⊢
    obtain ⟨W, hW⟩ : ∃ W, W = w.alloc (.cells #[.int .i64 k, .int .i64 n, .string s, .slice a len c] 26) := ⟨_, rfl⟩
    have hA : Below w.heap.size w W := by rw [hW]; exact (Below.refl _ _).alloc (Nat.le_refl _) _
    have hWz : W.heap.size = w.heap.size + 1 := by rw [hW]; simp
    have hB1 : W.heap[w.heap.size]? = some (.cells #[.int .i64 k, .int .i64 n, .string s, .slice a len c] 26 (0, 0)) := by rw [hW]; exact heap_alloc_new w _
    have HI : Hid (Tells 53 d cntL) := ih
    clear ih hel hw hl hc
    go_enter Try.func53, Try.ntmps53
    go_wp2_with fail
    rw [← hW]
    clear hW
    go_loopw [3, 4] (fun x i wr => ∃ j : Nat, j ≤ len ∧ i = .int .i64 j ∧ x = .int .i64 (1 + cntP d ts j : Nat) ∧ Below W.heap.size W wr) (fun _ i _ => len - (intOf i).toNat)
    case atStart => exact ⟨0, Nat.zero_le _, rfl, rfl, Below.refl _ _⟩
    case round =>
      obtain ⟨j, hj, rfl, rfl, hb⟩ := hrel
      have c1 : wr.cell? ⟨w.heap.size, 3, none⟩ = some (.slice a len c) := by rw [cell_of_row wr _ 3 _ _ _ ((hb.block _ (by omega)).trans hB1)]; rfl
      have hbw : Below w.heap.size w wr := hA.trans (hb.mono (by omega))
      obtain ⟨P, hP⟩ : ∃ P, cntP d ts j = P := ⟨_, rfl⟩
      have HP : Hid (cntP d ts j = P) := hP
      have hPb : P ≤ 1099511627776 := by have := cntP_le d ts j; have := HCC.out; omega
      rw [hP]
      clear hP
      by_cases hjl : j < len
      · obtain ⟨t, ht⟩ : ∃ t, ts[j]? = some t := ⟨_, List.getElem?_eq_getElem (by rw [HL.out]; exact hjl)⟩
        obtain ⟨b1, o1, lv1, rfl, F1, L1⟩ := HE.out j t ht
        obtain ⟨_, _, _, hwt⟩ := HW.out.2 t (List.mem_of_getElem? ht)
        obtain ⟨f0, f1, f2, f3⟩ := F1.later hbw
        have hct := cnt_elem ht HCC.out
        have hC := HI.out t.K t.N t.S lv1 t.L wr (L1.later hbw) hwt hct
        have HS : Hid (cntP d ts (j + 1) = P + (1 + cntL d t.L)) := by rw [← HP.out]; exact cntP_succ d ts j t ht
        obtain ⟨q, hq⟩ : ∃ q, cntL d t.L = q := ⟨_, rfl⟩
        rw [hq] at hC hct HS
        have hjl' : (j : Int) < (len : Int) := by omega
        clear F1 L1 hwt ht hq HI
        go_wp2_with fail
        refine hC.mono ?_
        clear hC
        rintro e V ⟨rfl, hB⟩
        have hb2 : Below W.heap.size W V := hb.trans (hB.mono hb.size)
        clear hb hB f0 f1 f2 f3 c1
        go_wp2
        go_roundw
        case rel => exact ⟨j + 1, by omega, by go_num, by rw [HS.out]; go_num, hb2⟩
        case measure => simp [intOf]; omega
      · have HF : Hid (P = cntL (d + 1) ts) := by rw [← HP.out]; exact cntP_all d ts j (by have := HL.out; omega)
        clear hb HI
        go_wp2
        go_ret
        exact ⟨tret1 (by rw [← HF.out]), hbw⟩

set_option maxHeartbeats 1000000 in
theorem specDepthOf_any : ∀ d, Tells 56 d depL := by
  intro d
  induction d with
  | zero =>
    intro k n s l ts w hr hw hc
    obtain ⟨a, c, rfl⟩ := hr
    have hA : Below w.heap.size w (w.alloc (.cells #[.int .i64 k, .int .i64 n, .string s, .slice a 0 c] 26)) := (Below.refl _ _).alloc (Nat.le_refl _) _
    go_enter Try.func56, Try.ntmps56
    go_wp2
    refine wp_loop_rounds 1 ?_
    rw [rounds_succ]
    go_wp2
    go_ret
    exact ⟨rfl, hA⟩
  | succ d ih =>
    intro k n s l ts w hr hw hc
    obtain ⟨a, c, rfl, hel⟩ := hr
    have HE : Hid (∀ (i : Nat) (t : Tm (d + 1)), ts[i]? = some t → ∃ b o lv, a = some ⟨b, o, none⟩ ∧ Four w b (o + i * 4) t.K t.N t.S lv ∧ RdL d w lv t.L) := hel
    have HW : Hid (WfL (d + 1) ts) := hw
    have HCC : Hid (cntL (d + 1) ts ≤ 1099511627776) := hc
    have hm : ts.length ≤ 9223372036854775807 := hw.1
    obtain ⟨len, hl⟩ : ∃ len, ts.length = len := ⟨_, rfl⟩
    have HL : Hid (ts.length = len) := hl
    rw [hl] at hm ⊢
    obtain ⟨W, hW⟩ : ∃ W, W = w.alloc (.cells #[.int .i64 k, .int .i64 n, .string s, .slice a len c] 26) := ⟨_, rfl⟩
    have hA : Below w.heap.size w W := by rw [hW]; exact (Below.refl _ _).alloc (Nat.le_refl _) _
    have hWz : W.heap.size = w.heap.size + 1 := by rw [hW]; simp
    have hB1 : W.heap[w.heap.size]? = some (.cells #[.int .i64 k, .int .i64 n, .string s, .slice a len c] 26 (0, 0)) := by rw [hW]; exact heap_alloc_new w _
    have HI : Hid (Tells 56 d depL) := ih
    clear ih hel hw hl hc
    go_enter Try.func56, Try.ntmps56
    go_wp2_with fail
    rw [← hW]
    clear hW
    go_loopw [3, 4] (fun x i wr => ∃ j : Nat, j ≤ len ∧ i = .int .i64 j ∧ x = .int .i64 (depP d ts j : Nat) ∧ Below W.heap.size W wr) (fun _ i _ => len - (intOf i).toNat)
    case atStart => exact ⟨0, Nat.zero_le _, rfl, rfl, Below.refl _ _⟩
    case round =>
      obtain ⟨j, hj, rfl, rfl, hb⟩ := hrel
      have c1 : wr.cell? ⟨w.heap.size, 3, none⟩ = some (.slice a len c) := by rw [cell_of_row wr _ 3 _ _ _ ((hb.block _ (by omega)).trans hB1)]; rfl
      have hbw : Below w.heap.size w wr := hA.trans (hb.mono (by omega))
      obtain ⟨P, hP⟩ : ∃ P, depP d ts j = P := ⟨_, rfl⟩
      have HP : Hid (depP d ts j = P) := hP
      have hPb : P ≤ 1099511627776 := by have := depP_le d ts j; have := depL_cntL (d + 1) ts; have := HCC.out; omega
      rw [hP]
      clear hP
      by_cases hjl : j < len
      · obtain ⟨t, ht⟩ : ∃ t, ts[j]? = some t := ⟨_, List.getElem?_eq_getElem (by rw [HL.out]; exact hjl)⟩
        obtain ⟨b1, o1, lv1, rfl, F1, L1⟩ := HE.out j t ht
        obtain ⟨_, _, _, hwt⟩ := HW.out.2 t (List.mem_of_getElem? ht)
        obtain ⟨f0, f1, f2, f3⟩ := F1.later hbw
        have hct := cnt_elem ht HCC.out
        have hC := HI.out t.K t.N t.S lv1 t.L wr (L1.later hbw) hwt hct
        have hdt := depL_cntL d t.L
        have HS : Hid (depP d ts (j + 1) = max P (1 + depL d t.L)) := by rw [← HP.out]; exact depP_succ d ts j t ht
        obtain ⟨q, hq⟩ : ∃ q, depL d t.L = q := ⟨_, rfl⟩
        rw [hq] at hC hdt HS
        have hjl' : (j : Int) < (len : Int) := by omega
        clear F1 L1 hwt ht hq HI
        by_cases hgt : P < 1 + q
        · have hgt' : (P : Int) < ((1 + q : Nat) : Int) := by omega
          have HS2 : Hid (depP d ts (j + 1) = 1 + q) := by rw [HS.out]; show _ = _; omega
          go_wp2_with fail
          refine hC.mono ?_
          clear hC
          rintro e V ⟨rfl, hB⟩
          have hb2 : Below W.heap.size W V := hb.trans (hB.mono hb.size)
          clear hb hB f0 f1 f2 f3 c1
          go_wp2
          go_roundw
          case rel => exact ⟨j + 1, by omega, by go_num, by rw [HS2.out]; go_num, hb2⟩
          case measure => simp [intOf]; omega
        · have HS2 : Hid (depP d ts (j + 1) = P) := by rw [HS.out]; show _ = _; omega
          have hgt' : ¬ (P : Int) < ((1 + q : Nat) : Int) := by omega
          go_wp2_with fail
          refine hC.mono ?_
          clear hC
          rintro e V ⟨rfl, hB⟩
          have hb2 : Below W.heap.size W V := hb.trans (hB.mono hb.size)
          clear hb hB f0 f1 f2 f3 c1
          go_wp2
          go_roundw
          case rel => exact ⟨j + 1, by omega, by go_num, by rw [HS2.out], hb2⟩
          case measure => simp [intOf]; omega
      · have HF : Hid (P = depL (d + 1) ts) := by rw [← HP.out]; exact depP_all d ts j (by have := HL.out; omega)
        clear hb HI
        go_wp2
        go_ret
        exact ⟨tret1 (by rw [← HF.out]; omega), hbw⟩

end Go.Proofs.Ythjmbbpakidkdaa
