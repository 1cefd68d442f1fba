/- How many terms there are, how deep they are, and that the model's two functions tell it. -/
import Derived.Test.YthjmbbpakidkdaaTmM
import Derived.BigQuiet
namespace Go.Proofs.Ythjmbbpakidkdaa
open Go.RowKit
set_option linter.unusedVariables false

/-- How many terms are in a list, all storeys. -/
def cntL : (d : Nat) → List (Tm d) → Nat
  | 0, _ => 0
  | d + 1, ts => (ts.map fun t => 1 + cntL d t.L).sum

/-- How deep the deepest of a list is. -/
def depL : (d : Nat) → List (Tm d) → Nat
  | 0, _ => 0
  | d + 1, ts => (ts.map fun t => 1 + depL d t.L).foldl max 0

def cntP (d : Nat) (ts : List (Tm (d + 1))) (i : Nat) : Nat := ((ts.take i).map fun t => 1 + cntL d t.L).sum
def depP (d : Nat) (ts : List (Tm (d + 1))) (i : Nat) : Nat := ((ts.take i).map fun t => 1 + depL d t.L).foldl max 0

theorem cntP_succ (d : Nat) (ts : List (Tm (d + 1))) (i : Nat) (t : Tm (d + 1)) (h : ts[i]? = some t) : cntP d ts (i + 1) = cntP d ts i + (1 + cntL d t.L) := by
  have hl := (List.getElem?_eq_some_iff.1 h).1
  have he := (List.getElem?_eq_some_iff.1 h).2
  unfold cntP
  rw [List.take_succ_eq_append_getElem hl, he]
  simp
theorem depP_succ (d : Nat) (ts : List (Tm (d + 1))) (i : Nat) (t : Tm (d + 1)) (h : ts[i]? = some t) : depP d ts (i + 1) = max (depP d ts i) (1 + depL d t.L) := by
  have hl := (List.getElem?_eq_some_iff.1 h).1
  have he := (List.getElem?_eq_some_iff.1 h).2
  unfold depP
  rw [List.take_succ_eq_append_getElem hl, he]
  simp
theorem cntP_all (d : Nat) (ts : List (Tm (d + 1))) (i : Nat) (h : ts.length ≤ i) : cntP d ts i = cntL (d + 1) ts := by
  unfold cntP; rw [List.take_of_length_le h]; rfl
theorem depP_all (d : Nat) (ts : List (Tm (d + 1))) (i : Nat) (h : ts.length ≤ i) : depP d ts i = depL (d + 1) ts := by
  unfold depP; rw [List.take_of_length_le h]; rfl
theorem cntP_le (d : Nat) (ts : List (Tm (d + 1))) (i : Nat) : cntP d ts i ≤ cntL (d + 1) ts := by
  show _ ≤ (ts.map fun t => 1 + cntL d t.L).sum
  unfold cntP
  conv => rhs; rw [← List.take_append_drop i ts]
  rw [List.map_append, List.sum_append]
  omega

theorem cntL_szL : ∀ (d : Nat) (ts : List (Tm d)), cntL d ts ≤ szL d ts := by
  intro d
  induction d with
  | zero => intro ts; exact Nat.le_refl _
  | succ d ih =>
    intro ts
    show (ts.map fun t => 1 + cntL d t.L).sum ≤ ts.length + (ts.map fun t => t.S.size + szL d t.L).sum
    induction ts with
    | nil => simp
    | cons t r ih2 =>
      have := ih t.L
      simp only [List.map_cons, List.sum_cons, List.length_cons]
      omega

theorem foldl_max_ge (l : List Nat) : ∀ a, a ≤ l.foldl max a ∧ ∀ x ∈ l, x ≤ l.foldl max a := by
  induction l with
  | nil => intro a; exact ⟨Nat.le_refl _, fun x hx => by cases hx⟩
  | cons b r ih =>
    intro a
    have h := ih (max a b)
    refine ⟨by simp only [List.foldl_cons]; omega, fun x hx => ?_⟩
    rcases List.mem_cons.1 hx with rfl | hx
    · simp only [List.foldl_cons]; omega
    · simp only [List.foldl_cons]; exact h.2 x hx
theorem foldl_max_le (l : List Nat) : ∀ (a m : Nat), a ≤ m → (∀ x ∈ l, x ≤ m) → l.foldl max a ≤ m := by
  induction l with
  | nil => intro a m h _; exact h
  | cons b r ih =>
    intro a m h hx
    exact ih (max a b) m (by have := hx b (List.mem_cons_self ..); omega) fun x hx' => hx x (List.mem_cons_of_mem _ hx')

theorem depL_cntL : ∀ (d : Nat) (ts : List (Tm d)), depL d ts ≤ cntL d ts := by
  intro d
  induction d with
  | zero => intro ts; exact Nat.le_refl _
  | succ d ih =>
    intro ts
    refine foldl_max_le _ 0 _ (Nat.zero_le _) fun x hx => ?_
    obtain ⟨t, ht, rfl⟩ := List.mem_map.1 hx
    have h1 := ih t.L
    have h2 : ∀ (l : List (Tm (d + 1))), t ∈ l → 1 + cntL d t.L ≤ (l.map fun t => 1 + cntL d t.L).sum := by
      intro l hl
      induction l with
      | nil => cases hl
      | cons b r ih2 =>
        simp only [List.map_cons, List.sum_cons]
        rcases List.mem_cons.1 hl with rfl | hl
        · omega
        · have := ih2 hl; omega
    have := h2 ts ht
    show 1 + depL d t.L ≤ (ts.map fun t => 1 + cntL d t.L).sum
    omega

theorem depP_le (d : Nat) (ts : List (Tm (d + 1))) (i : Nat) : depP d ts i ≤ depL (d + 1) ts := by
  refine foldl_max_le _ 0 _ (Nat.zero_le _) fun x hx => ?_
  obtain ⟨t, ht, rfl⟩ := List.mem_map.1 hx
  exact (foldl_max_ge _ 0).2 _ (List.mem_map.2 ⟨t, List.mem_of_mem_take ht, rfl⟩)

/-- The contract of a function that tells a number of a term. -/
def Tells (f d : Nat) (g : (d : Nat) → List (Tm d) → Nat) : Prop := ∀ (k n : Int) (s : ByteArray) (l : Value) (ts : List (Tm d)) (w : World), RdL d w l ts → WfL d ts → cntL d ts ≤ 1099511627776 →
  Calls Try.prog f #[.agg #[.int .i64 k, .int .i64 n, .string s, l]] w fun e w' => e = .returned (.int .i64 (1 + g d ts : Nat)) ∧ Below w.heap.size w w'

theorem cnt_elem {d : Nat} {ts : List (Tm (d + 1))} {j : Nat} {t : Tm (d + 1)} (ht : ts[j]? = some t) (h : cntL (d + 1) ts ≤ 1099511627776) : cntL d t.L ≤ 1099511627776 := by
  have h1 := cntP_succ d ts j t ht
  have h2 := cntP_le d ts (j + 1)
  omega

set_option maxHeartbeats 1000000 in
theorem specCountOf_any : ∀ d, Tells 53 d cntL := by
  intro d
  induction d with
  | zero =>
    intro k n s l ts w hr hw hc
    obtain ⟨a, c, rfl⟩ := hr
    have hA : Below w.heap.size w (w.alloc (.cells #[.int .i64 k, .int .i64 n, .string s, .slice a 0 c] 26)) := (Below.refl _ _).alloc (Nat.le_refl _) _
    go_enter Try.func53, Try.ntmps53
    go_wp2
    refine wp_loop_rounds 1 ?_
    rw [rounds_succ]
    go_wp2
    go_ret
    exact ⟨rfl, hA⟩
  | succ d ih =>
    intro k n s l ts w hr hw hc
    obtain ⟨a, c, rfl, hel⟩ := hr
    have HE : Hid (∀ (i : Nat) (t : Tm (d + 1)), ts[i]? = some t → ∃ b o lv, a = some ⟨b, o, none⟩ ∧ Four w b (o + i * 4) t.K t.N t.S lv ∧ RdL d w lv t.L) := hel
    have HW : Hid (WfL (d + 1) ts) := hw
    have HCC : Hid (cntL (d + 1) ts ≤ 1099511627776) := hc
    have hm : ts.length ≤ 9223372036854775807 := hw.1
    obtain ⟨len, hl⟩ : ∃ len, ts.length = len := ⟨_, rfl⟩
    have HL : Hid (ts.length = len) := hl
    rw [hl] at hm ⊢
    obtain ⟨W, hW⟩ : ∃ W, W = w.alloc (.cells #[.int .i64 k, .int .i64 n, .string s, .slice a len c] 26) := ⟨_, rfl⟩
    have hA : Below w.heap.size w W := by rw [hW]; exact (Below.refl _ _).alloc (Nat.le_refl _) _
    have hWz : W.heap.size = w.heap.size + 1 := by rw [hW]; simp
    have hB1 : W.heap[w.heap.size]? = some (.cells #[.int .i64 k, .int .i64 n, .string s, .slice a len c] 26 (0, 0)) := by rw [hW]; exact heap_alloc_new w _
    have HI : Hid (Tells 53 d cntL) := ih
    clear ih hel hw hl hc
    go_enter Try.func53, Try.ntmps53
    go_wp2_with fail
    rw [← hW]
    clear hW
    go_loopw [3, 4] (fun x i wr => ∃ j : Nat, j ≤ len ∧ i = .int .i64 j ∧ x = .int .i64 (1 + cntP d ts j : Nat) ∧ Below W.heap.size W wr) (fun _ i _ => len - (intOf i).toNat)
    case atStart => exact ⟨0, Nat.zero_le _, rfl, rfl, Below.refl _ _⟩
    case round =>
      obtain ⟨j, hj, rfl, rfl, hb⟩ := hrel
      have c1 : wr.cell? ⟨w.heap.size, 3, none⟩ = some (.slice a len c) := by rw [cell_of_row wr _ 3 _ _ _ ((hb.block _ (by omega)).trans hB1)]; rfl
      have hbw : Below w.heap.size w wr := hA.trans (hb.mono (by omega))
      obtain ⟨P, hP⟩ : ∃ P, cntP d ts j = P := ⟨_, rfl⟩
      have HP : Hid (cntP d ts j = P) := hP
      have hPb : P ≤ 1099511627776 := by have := cntP_le d ts j; have := HCC.out; omega
      rw [hP]
      clear hP
      by_cases hjl : j < len
      · obtain ⟨t, ht⟩ : ∃ t, ts[j]? = some t := ⟨_, List.getElem?_eq_getElem (by rw [HL.out]; exact hjl)⟩
        obtain ⟨b1, o1, lv1, rfl, F1, L1⟩ := HE.out j t ht
        obtain ⟨_, _, _, hwt⟩ := HW.out.2 t (List.mem_of_getElem? ht)
        obtain ⟨f0, f1, f2, f3⟩ := F1.later hbw
        have hct := cnt_elem ht HCC.out
        have hC := HI.out t.K t.N t.S lv1 t.L wr (L1.later hbw) hwt hct
        have HS : Hid (cntP d ts (j + 1) = P + (1 + cntL d t.L)) := by rw [← HP.out]; exact cntP_succ d ts j t ht
        obtain ⟨q, hq⟩ : ∃ q, cntL d t.L = q := ⟨_, rfl⟩
        rw [hq] at hC hct HS
        have hjl' : (j : Int) < (len : Int) := by omega
        clear F1 L1 hwt ht hq HI
        go_wp2_with fail
        refine hC.mono ?_
        clear hC
        rintro e V ⟨rfl, hB⟩
        have hb2 : Below W.heap.size W V := hb.trans (hB.mono hb.size)
        clear hb hB f0 f1 f2 f3 c1
        go_wp2
        go_roundw
        case rel => exact ⟨j + 1, by omega, by go_num, by rw [HS.out]; go_num, hb2⟩
        case measure => simp [intOf]; omega
      · have HF : Hid (P = cntL (d + 1) ts) := by rw [← HP.out]; exact cntP_all d ts j (by have := HL.out; omega)
        clear hb HI
        go_wp2
        go_ret
        exact ⟨tret1 (by rw [← HF.out]), hbw⟩

set_option maxHeartbeats 1000000 in
theorem specDepthOf_any : ∀ d, Tells 56 d depL := by
  intro d
  induction d with
  | zero =>
    intro k n s l ts w hr hw hc
    obtain ⟨a, c, rfl⟩ := hr
    have hA : Below w.heap.size w (w.alloc (.cells #[.int .i64 k, .int .i64 n, .string s, .slice a 0 c] 26)) := (Below.refl _ _).alloc (Nat.le_refl _) _
    go_enter Try.func56, Try.ntmps56
    go_wp2
    refine wp_loop_rounds 1 ?_
    rw [rounds_succ]
    go_wp2
    go_ret
    exact ⟨rfl, hA⟩
  | succ d ih =>
    intro k n s l ts w hr hw hc
    obtain ⟨a, c, rfl, hel⟩ := hr
    have HE : Hid (∀ (i : Nat) (t : Tm (d + 1)), ts[i]? = some t → ∃ b o lv, a = some ⟨b, o, none⟩ ∧ Four w b (o + i * 4) t.K t.N t.S lv ∧ RdL d w lv t.L) := hel
    have HW : Hid (WfL (d + 1) ts) := hw
    have HCC : Hid (cntL (d + 1) ts ≤ 1099511627776) := hc
    have hm : ts.length ≤ 9223372036854775807 := hw.1
    obtain ⟨len, hl⟩ : ∃ len, ts.length = len := ⟨_, rfl⟩
    have HL : Hid (ts.length = len) := hl
    rw [hl] at hm ⊢
    obtain ⟨W, hW⟩ : ∃ W, W = w.alloc (.cells #[.int .i64 k, .int .i64 n, .string s, .slice a len c] 26) := ⟨_, rfl⟩
    have hA : Below w.heap.size w W := by rw [hW]; exact (Below.refl _ _).alloc (Nat.le_refl _) _
    have hWz : W.heap.size = w.heap.size + 1 := by rw [hW]; simp
    have hB1 : W.heap[w.heap.size]? = some (.cells #[.int .i64 k, .int .i64 n, .string s, .slice a len c] 26 (0, 0)) := by rw [hW]; exact heap_alloc_new w _
    have HI : Hid (Tells 56 d depL) := ih
    clear ih hel hw hl hc
    go_enter Try.func56, Try.ntmps56
    go_wp2_with fail
    rw [← hW]
    clear hW
    go_loopw [3, 4] (fun x i wr => ∃ j : Nat, j ≤ len ∧ i = .int .i64 j ∧ x = .int .i64 (depP d ts j : Nat) ∧ Below W.heap.size W wr) (fun _ i _ => len - (intOf i).toNat)
    case atStart => exact ⟨0, Nat.zero_le _, rfl, rfl, Below.refl _ _⟩
    case round =>
      obtain ⟨j, hj, rfl, rfl, hb⟩ := hrel
      have c1 : wr.cell? ⟨w.heap.size, 3, none⟩ = some (.slice a len c) := by rw [cell_of_row wr _ 3 _ _ _ ((hb.block _ (by omega)).trans hB1)]; rfl
      have hbw : Below w.heap.size w wr := hA.trans (hb.mono (by omega))
      obtain ⟨P, hP⟩ : ∃ P, depP d ts j = P := ⟨_, rfl⟩
      have HP : Hid (depP d ts j = P) := hP
      have hPb : P ≤ 1099511627776 := by have := depP_le d ts j; have := depL_cntL (d + 1) ts; have := HCC.out; omega
      rw [hP]
      clear hP
      by_cases hjl : j < len
      · obtain ⟨t, ht⟩ : ∃ t, ts[j]? = some t := ⟨_, List.getElem?_eq_getElem (by rw [HL.out]; exact hjl)⟩
        obtain ⟨b1, o1, lv1, rfl, F1, L1⟩ := HE.out j t ht
        obtain ⟨_, _, _, hwt⟩ := HW.out.2 t (List.mem_of_getElem? ht)
        obtain ⟨f0, f1, f2, f3⟩ := F1.later hbw
        have hct := cnt_elem ht HCC.out
        have hC := HI.out t.K t.N t.S lv1 t.L wr (L1.later hbw) hwt hct
        have hdt := depL_cntL d t.L
        have HS : Hid (depP d ts (j + 1) = max P (1 + depL d t.L)) := by rw [← HP.out]; exact depP_succ d ts j t ht
        obtain ⟨q, hq⟩ : ∃ q, depL d t.L = q := ⟨_, rfl⟩
        rw [hq] at hC hdt HS
        have hjl' : (j : Int) < (len : Int) := by omega
        clear F1 L1 hwt ht hq HI
        by_cases hgt : P < 1 + q
        · have hgt' : (P : Int) < ((1 + q : Nat) : Int) := by omega
          have HS2 : Hid (depP d ts (j + 1) = 1 + q) := by rw [HS.out]; show _ = _; omega
          go_wp2_with fail
          refine hC.mono ?_
          clear hC
          rintro e V ⟨rfl, hB⟩
          have hb2 : Below W.heap.size W V := hb.trans (hB.mono hb.size)
          clear hb hB f0 f1 f2 f3 c1
          go_wp2
          go_roundw
          case rel => exact ⟨j + 1, by omega, by go_num, by rw [HS2.out]; go_num, hb2⟩
          case measure => simp [intOf]; omega
        · have HS2 : Hid (depP d ts (j + 1) = P) := by rw [HS.out]; show _ = _; omega
          have hgt' : ¬ (P : Int) < ((1 + q : Nat) : Int) := by omega
          go_wp2_with fail
          refine hC.mono ?_
          clear hC
          rintro e V ⟨rfl, hB⟩
          have hb2 : Below W.heap.size W V := hb.trans (hB.mono hb.size)
          clear hb hB f0 f1 f2 f3 c1
          go_wp2
          go_roundw
          case rel => exact ⟨j + 1, by omega, by go_num, by rw [HS2.out], hb2⟩
          case measure => simp [intOf]; omega
      · have HF : Hid (P = depL (d + 1) ts) := by rw [← HP.out]; exact depP_all d ts j (by have := HL.out; omega)
        clear hb HI
        go_wp2
        go_ret
        exact ⟨tret1 (by rw [← HF.out]; omega), hbw⟩

end Go.Proofs.Ythjmbbpakidkdaa

/- The law's own marks on terms, and whether they are held. -/
namespace Go.Proofs.Ythjmbbpakidkdaa
open Go.RowKit
set_option linter.unusedVariables false

def mtF : Nat → Int → ByteArray → ByteArray
  | 0, _, s => s
  | f + 1, y, s => if 0 < y then mtF f (y / 10) (strOfNums [48 + y % 10] ++ s) else s

/-- The text of a mark. -/
def mt (k : Int) : ByteArray := if k ≤ 0 then ⟨#[109, 48]⟩ else ⟨#[109]⟩ ++ mtF k.toNat k ⟨#[]⟩

theorem mtF_more : ∀ (f g : Nat) (y : Int) (s : ByteArray), y.toNat ≤ f → y.toNat ≤ g → mtF f y s = mtF g y s := by
  intro f
  induction f with
  | zero =>
    intro g y s hf _
    cases g with
    | zero => rfl
    | succ g => rw [mtF, mtF, if_neg (by omega)]
  | succ f ih =>
    intro g y s hf hg
    cases g with
    | zero => rw [mtF, mtF, if_neg (by omega)]
    | succ g =>
      rw [mtF, mtF]
      by_cases h : 0 < y
      · rw [if_pos h, if_pos h, ih g (y / 10) _ (by omega) (by omega)]
      · rw [if_neg h, if_neg h]

theorem mtF_go (y : Int) (s : ByteArray) (h : 0 < y) : mtF y.toNat y s = mtF (y / 10).toNat (y / 10) (strOfNums [48 + y % 10] ++ s) := by
  obtain ⟨f, hf⟩ : ∃ f, y.toNat = f + 1 := ⟨y.toNat - 1, by omega⟩
  rw [hf, mtF, if_pos h]
  exact mtF_more _ _ _ _ (by omega) (by omega)
theorem mtF_end (y : Int) (s : ByteArray) (h : ¬ 0 < y) : mtF y.toNat y s = s := by
  rw [show y.toNat = 0 from by omega]; rfl

set_option maxHeartbeats 400000 in
theorem markText_any (k : Int) (w : World) (h0 : 0 ≤ k) (h1 : k ≤ 1099511627776) :
    Calls Try.prog 113 #[.int .i64 k] w fun e w' => e = .returned (.string (mt k)) ∧ Below w.heap.size w w' := by
  by_cases hk : k ≤ 0
  · have HF : Hid (mt k = ⟨#[109, 48]⟩) := by show _ = _; unfold mt; rw [if_pos hk]
    go_enter Try.func113, Try.ntmps113
    go_wp2
    go_ret
    exact ⟨by rw [HF.out]; rfl, Below.refl _ _⟩
  · have HF : Hid (mt k = ⟨#[109]⟩ ++ mtF k.toNat k ⟨#[]⟩) := by show _ = _; unfold mt; rw [if_neg hk]
    go_enter Try.func113, Try.ntmps113
    go_wp2_with fail
    go_loopw [0, 3] (fun x o wr => ∃ (y : Int) (s : ByteArray), 0 ≤ y ∧ y ≤ 1099511627776 ∧ x = .int .i64 y ∧ o = .string s ∧ (s.size : Int) + y ≤ k ∧ Hid (mtF k.toNat k ⟨#[]⟩ = mtF y.toNat y s) ∧ Below w.heap.size w wr) (fun x _ _ => (intOf x).toNat)
    case atStart => exact ⟨k, ⟨#[]⟩, h0, h1, rfl, rfl, by show ((0 : Nat) : Int) + k ≤ k; omega, rfl, Below.refl _ _⟩
    case round =>
      obtain ⟨y, s, hy0, hy1, rfl, rfl, hsz, HM, hb⟩ := hrel
      by_cases hy : 0 < y
      · have hcv : (convert 22 9 (.slice (some ⟨wr.heap.size, 0, none⟩) 1 1)).run Try.prog (wr.alloc (.cells #[.int .u8 (48 + y % 10)] 5)) = .ok (.string (strOfNums [48 + y % 10])) (wr.alloc (.cells #[.int .u8 (48 + y % 10)] 5)) := by
          refine run_convert_bytes_arg _ 22 5 Try.underlying22 Try.underlying5 wr.heap.size 0 1 1 [48 + y % 10] rfl (fun i hi => ?_) 9 Try.underlying9
          obtain rfl : i = 0 := by omega
          simp
        have HM2 : Hid (mtF k.toNat k ⟨#[]⟩ = mtF (y / 10).toNat (y / 10) (strOfNums [48 + y % 10] ++ s)) := HM.out.trans (mtF_go y s hy)
        have hb2 : Below w.heap.size w (wr.alloc (.cells #[.int .u8 (48 + y % 10)] 5)) := hb.alloc hb.size _
        have hD : (strOfNums [48 + y % 10]).size = 1 := by rw [strOfNums_size]; rfl
        generalize strOfNums [48 + y % 10] = D at hcv HM2 hD
        clear HM
        go_wp2_with fail
        go_roundw
        case rel => exact ⟨y / 10, _, by omega, by omega, rfl, rfl, by rw [ByteArray.size_append, hD]; omega, HM2, hb2⟩
        case measure => simp [intOf]; omega
      · have HR : Hid (mt k = ⟨#[109]⟩ ++ s) := by rw [HF.out, HM.out, mtF_end y s hy]; exact rfl
        clear HM HF
        go_wp2_with fail
        go_ret
        exact ⟨by rw [HR.out]; rfl, hb⟩

def markList {α : Type} (f : Int → α → α × Int) : Int → List α → List α × Int
  | k, [] => ([], k)
  | k, t :: r => ((f k t).1 :: (markList f (f k t).2 r).1, (markList f (f k t).2 r).2)

/-- The marks on a list of terms from k on, and the next mark. -/
def markL : (d : Nat) → Int → List (Tm d) → List (Tm d) × Int
  | 0, k, ts => (ts, k)
  | d + 1, k, ts => markList (fun k t => (((k, k + 1, mt (k + 2), (markL d (k + 3) t.L).1) : Int × Int × ByteArray × List (Tm d)), (markL d (k + 3) t.L).2)) k ts

/-- A term marked from k on. -/
def markT (d : Nat) (k : Int) (t : Tm (d + 1)) : Tm (d + 1) := (k, k + 1, mt (k + 2), (markL d (k + 3) t.L).1)

theorem markList_len {α : Type} (f : Int → α → α × Int) : ∀ (ts : List α) (k : Int), (markList f k ts).1.length = ts.length := by
  intro ts
  induction ts with
  | nil => intro k; rfl
  | cons t r ih => intro k; show ((f k t).1 :: _).length = _; simp [ih]

theorem markL_next : ∀ (d : Nat) (k : Int) (ts : List (Tm d)), (markL d k ts).2 = k + 3 * (cntL d ts : Nat) := by
  intro d
  induction d with
  | zero => intro k ts; show k = k + 3 * ((0 : Nat) : Int); omega
  | succ d ih =>
    intro k ts
    show (markList _ k ts).2 = k + 3 * ((ts.map fun t => 1 + cntL d t.L).sum : Nat)
    induction ts generalizing k with
    | nil => show k = _; simp
    | cons t r ih2 =>
      show (markList _ _ r).2 = _
      rw [ih2, ih]
      simp only [List.map_cons, List.sum_cons]
      omega

theorem markL_at (d : Nat) : ∀ (ts : List (Tm (d + 1))) (k : Int) (j : Nat), (markL (d + 1) k ts).1[j]? = (ts[j]?).map (markT d (k + 3 * (cntP d ts j : Nat))) := by
  intro ts
  induction ts with
  | nil => intro k j; rfl
  | cons t r ih =>
    intro k j
    cases j with
    | zero =>
      show some (markT d k t) = some (markT d (k + 3 * ((0 : Nat) : Int)) t)
      rw [show k + 3 * ((0 : Nat) : Int) = k from by omega]
    | succ j =>
      have h := ih ((markL d (k + 3) t.L).2) j
      have e : cntP d (t :: r) (j + 1) = (1 + cntL d t.L) + cntP d r j := by unfold cntP; simp
      rw [markL_next] at h
      show (markL (d + 1) ((markL d (k + 3) t.L).2) r).1[j]? = _
      rw [markL_next, h, e]
      simp only [List.getElem?_cons_succ]
      congr 2
      omega

/-- Only the blocks of fp were written; new ones may have come. -/
structure Wrote (fp : List Nat) (w w' : World) : Prop where
  os : w'.os = w.os
  tape : w'.tape = w.tape
  output : w'.output = w.output
  size : w.heap.size ≤ w'.heap.size
  block : ∀ g, g < w.heap.size → g ∉ fp → w'.heap[g]? = w.heap[g]?

theorem Wrote.refl (fp : List Nat) (w : World) : Wrote fp w w := ⟨rfl, rfl, rfl, Nat.le_refl _, fun _ _ _ => rfl⟩
theorem Wrote.trans {fp : List Nat} {a b c : World} (h : Wrote fp a b) (k : Wrote fp b c) : Wrote fp a c :=
  ⟨k.os.trans h.os, k.tape.trans h.tape, k.output.trans h.output, Nat.le_trans h.size k.size, fun g hg hn => (k.block g (Nat.lt_of_lt_of_le hg h.size) hn).trans (h.block g hg hn)⟩
theorem Wrote.mono {fp fq : List Nat} {a b : World} (h : Wrote fp a b) (hs : ∀ g ∈ fp, g ∈ fq) : Wrote fq a b := ⟨h.os, h.tape, h.output, h.size, fun g hg hn => h.block g hg fun h2 => hn (hs g h2)⟩
theorem Wrote.of_below {fp : List Nat} {a b : World} (h : Below a.heap.size a b) : Wrote fp a b := ⟨h.os, h.tape, h.output, h.size, fun g hg _ => h.block g hg⟩
theorem Wrote.of_set (w : World) (g o : Nat) (v : Value) : Wrote [g] w (w.setCell ⟨g, o, none⟩ v) :=
  ⟨rfl, rfl, rfl, by simp, fun j _ hn => heap_setCell_other w ⟨g, o, none⟩ j v (by simpa using hn)⟩

theorem OwnL.lt : ∀ {d : Nat} {w : World} {v : Value} {ts : List (Tm d)} {fp : List Nat}, OwnL d w v ts fp → ∀ g ∈ fp, g < w.heap.size := by
  intro d
  induction d with
  | zero => intro w v ts fp h g hg; rw [h.2] at hg; cases hg
  | succ d ih =>
    intro w v ts fp h g hg
    rcases h with ⟨_, rfl, _⟩ | ⟨g0, c, cur, fps, h1, h2, h3, rfl, h4⟩
    · cases hg
    · rcases List.mem_cons.1 hg with rfl | hg
      · exact Nat.lt_of_not_le fun hn => by simp [Array.getElem?_eq_none hn] at h2
      · obtain ⟨f, hf, hgf⟩ := List.mem_flatten.1 hg
        obtain ⟨i, hi, e⟩ := List.getElem_of_mem hf
        obtain ⟨t, ht⟩ : ∃ t, ts[i]? = some t := ⟨_, List.getElem?_eq_getElem (by omega)⟩
        obtain ⟨lv, f', e1, _, _, _, _, e6⟩ := h4 i t ht
        rw [List.getElem?_eq_getElem hi, e] at e1
        cases e1
        exact ih e6 g hgf

/-- The contract of the marks on a list. -/
def MkS (f d : Nat) : Prop := ∀ (v : Value) (ts : List (Tm d)) (fp : List Nat) (k : Int) (w : World), OwnL d w v ts fp → fp.Nodup → 0 ≤ k → k + 3 * (cntL d ts : Nat) ≤ 1099511627776 →
  Calls Try.prog f #[v, .int .i64 k] w fun e w' => e = .returned (.int .i64 (k + 3 * (cntL d ts : Nat))) ∧ OwnL d w' v (markL d k ts).1 fp ∧ Wrote fp w w'

/-- The first j terms of a row are marked, the others are as they were. -/
def Half (d : Nat) (ts : List (Tm (d + 1))) (k : Int) (j : Nat) (w : World) (cur : Array Value) (fps : List (List Nat)) : Prop :=
  ∀ (i : Nat) (t : Tm (d + 1)), ts[i]? = some t → ∃ lv f, fps[i]? = some f ∧
    (i < j → cur[i * 4]? = some (.int .i64 (k + 3 * (cntP d ts i : Nat))) ∧ cur[i * 4 + 1]? = some (.int .i64 (k + 3 * (cntP d ts i : Nat) + 1)) ∧ cur[i * 4 + 2]? = some (.string (mt (k + 3 * (cntP d ts i : Nat) + 2))) ∧ cur[i * 4 + 3]? = some lv ∧ OwnL d w lv (markL d (k + 3 * (cntP d ts i : Nat) + 3) t.L).1 f) ∧
    (j ≤ i → cur[i * 4]? = some (.int .i64 t.K) ∧ cur[i * 4 + 1]? = some (.int .i64 t.N) ∧ cur[i * 4 + 2]? = some (.string t.S) ∧ cur[i * 4 + 3]? = some lv ∧ OwnL d w lv t.L f)

theorem nodup_fl : ∀ (fps : List (List Nat)), fps.flatten.Nodup → (∀ f ∈ fps, f.Nodup) ∧ ∀ (i j : Nat) (f f' : List Nat), i < j → fps[i]? = some f → fps[j]? = some f' → ∀ x ∈ f, x ∉ f' := by
  intro fps
  induction fps with
  | nil => intro _; exact ⟨(fun f hf => by cases hf), (fun i j f f' _ h => by simp at h)⟩
  | cons a r ih =>
    intro h
    rw [List.flatten_cons, List.nodup_append] at h
    obtain ⟨h1, h2⟩ := ih h.2.1
    refine ⟨fun f hf => ?_, fun i j f f' hij hi hj x hx hx' => ?_⟩
    · rcases List.mem_cons.1 hf with rfl | hf
      · exact h.1
      · exact h1 f hf
    · cases j with
      | zero => omega
      | succ j =>
        simp only [List.getElem?_cons_succ] at hj
        cases i with
        | zero =>
          simp only [List.getElem?_cons_zero, Option.some.injEq] at hi
          subst hi
          exact h.2.2 x hx x (List.mem_flatten.2 ⟨f', List.mem_of_getElem? hj, hx'⟩) rfl
        | succ i =>
          simp only [List.getElem?_cons_succ] at hi
          exact h2 i j f f' (by omega) hi hj x hx hx'

theorem mk_step {d : Nat} {ts : List (Tm (d + 1))} {k : Int} {j g : Nat} {wr V V2 : World} {cur cur3 : Array Value} {fps : List (List Nat)} {t : Tm (d + 1)} {lv : Value} {f : List Nat}
    (hH : Half d ts k j wr cur fps) (ht : ts[j]? = some t) (hf : fps[j]? = some f) (hlv : cur[j * 4 + 3]? = some lv) (hnd : (g :: fps.flatten).Nodup)
    (hV : ∀ x, x < wr.heap.size → x ≠ g → V.heap[x]? = wr.heap[x]?) (hW : Wrote f V V2) (hVs : wr.heap.size ≤ V.heap.size) (hown : OwnL d V2 lv (markL d (k + 3 * (cntP d ts j : Nat) + 3) t.L).1 f)
    (c0 : cur3[j * 4]? = some (.int .i64 (k + 3 * (cntP d ts j : Nat)))) (c1 : cur3[j * 4 + 1]? = some (.int .i64 (k + 3 * (cntP d ts j : Nat) + 1))) (c2 : cur3[j * 4 + 2]? = some (.string (mt (k + 3 * (cntP d ts j : Nat) + 2))))
    (c3 : ∀ x, x < j * 4 ∨ j * 4 + 2 < x → cur3[x]? = cur[x]?) : Half d ts k (j + 1) V2 cur3 fps := by
  have hg : ∀ (i : Nat) (f' : List Nat), fps[i]? = some f' → g ∉ f' := fun i f' h hm => (List.nodup_cons.1 hnd).1 (List.mem_flatten.2 ⟨f', List.mem_of_getElem? h, hm⟩)
  have hdis : ∀ (i : Nat) (f' : List Nat), fps[i]? = some f' → i ≠ j → ∀ x ∈ f', x ∉ f := by
    intro i f' h hij x hx hxf
    have hp := (nodup_fl fps (List.nodup_cons.1 hnd).2).2
    rcases Nat.lt_or_gt_of_ne hij with hlt | hlt
    · exact hp i j f' f hlt h hf x hx hxf
    · exact hp j i f f' hlt hf h x hxf hx
  have keep : ∀ (i : Nat) (f' : List Nat) (lv' : Value) (l : List (Tm d)), fps[i]? = some f' → i ≠ j → OwnL d wr lv' l f' → OwnL d V2 lv' l f' := by
    intro i f' lv' l h hij ho
    refine ho.frame fun x hx => ?_
    have hxs := ho.lt x hx
    rw [hW.block x (by omega) (hdis i f' h hij x hx), hV x hxs (fun e => hg i f' h (e ▸ hx))]
  intro i u hu
  by_cases hij : i = j
  · subst hij
    rw [ht] at hu
    obtain rfl := Option.some.inj hu
    exact ⟨lv, f, hf, fun _ => ⟨c0, c1, c2, by rw [c3 _ (by omega)]; exact hlv, hown⟩, fun h => by omega⟩
  · obtain ⟨lv', f', e1, e2, e3⟩ := hH i u hu
    refine ⟨lv', f', e1, fun hlt => ?_, fun hge => ?_⟩
    · obtain ⟨a0, a1, a2, a3, a4⟩ := e2 (by omega)
      exact ⟨by rw [c3 _ (by omega)]; exact a0, by rw [c3 _ (by omega)]; exact a1, by rw [c3 _ (by omega)]; exact a2, by rw [c3 _ (by omega)]; exact a3, keep i f' lv' _ e1 hij a4⟩
    · obtain ⟨a0, a1, a2, a3, a4⟩ := e3 (by omega)
      exact ⟨by rw [c3 _ (by omega)]; exact a0, by rw [c3 _ (by omega)]; exact a1, by rw [c3 _ (by omega)]; exact a2, by rw [c3 _ (by omega)]; exact a3, keep i f' lv' _ e1 hij a4⟩

end Go.Proofs.Ythjmbbpakidkdaa

/- When a term is right, and that the model's checks tell it. -/
namespace Go.Proofs.Ythjmbbpakidkdaa
open Go.RowKit
set_option linter.unusedVariables false

theorem iff_no {P : Prop} (h : ¬ P) : false = true ↔ P := ⟨fun e => Bool.noConfusion e, fun p => absurd p h⟩
theorem iff_yes {P : Prop} (h : P) : true = true ↔ P := ⟨fun _ => h, fun _ => rfl⟩

theorem specIn_any (x lo hi : Int) (w : World) :
    Calls Try.prog 99 #[.int .i64 x, .int .i64 lo, .int .i64 hi] w fun e w' => e = .returned (.bool (decide (lo ≤ x ∧ x ≤ hi))) ∧ w = w' := by
  by_cases h1 : lo ≤ x
  · by_cases h2 : x ≤ hi
    · have hd : decide (lo ≤ x ∧ x ≤ hi) = true := by simp [h1, h2]
      rw [hd]
      go_enter Try.func99, Try.ntmps99
      go_wp2
      go_ret
      exact ⟨rfl, rfl⟩
    · have hd : decide (lo ≤ x ∧ x ≤ hi) = false := by simp; omega
      rw [hd]
      go_enter Try.func99, Try.ntmps99
      go_wp2
      go_ret
      exact ⟨rfl, rfl⟩
  · have hd : decide (lo ≤ x ∧ x ≤ hi) = false := by simp; omega
    rw [hd]
    go_enter Try.func99, Try.ntmps99
    go_wp2
    go_ret
    exact ⟨rfl, rfl⟩

/-- A letter that an atom may have at place i. -/
def ChOk (i : Nat) (x : Int) : Prop := (97 ≤ x ∧ x ≤ 122) ∨ (i ≠ 0 ∧ ((48 ≤ x ∧ x ≤ 57) ∨ x = 95))

/-- An atom. -/
def AtomP (s : ByteArray) : Prop := (∀ (i : Nat) (h : i < s.size), ChOk i (s[i].toNat : Int)) ∧ 1 ≤ s.size ∧ s.size ≤ 20

set_option maxHeartbeats 1000000 in
theorem specAtomOk_any (s : ByteArray) (w : World) (hs : s.size ≤ 9223372036854775807) :
    Calls Try.prog 50 #[.string s] w fun e w' => ∃ b : Bool, e = .returned (.bool b) ∧ (b = true ↔ AtomP s) ∧ w = w' := by
  go_enter Try.func50, Try.ntmps50
  go_wp2_with fail
  go_loop [3] (fun i => ∃ k : Nat, k ≤ s.size ∧ i = .int .i64 k ∧ Hid (∀ (j : Nat) (h : j < s.size), j < k → ChOk j (s[j].toNat : Int))) (fun i => s.size - (intOf i).toNat)
  case atStart => exact ⟨0, Nat.zero_le _, rfl, fun j _ hj => by omega⟩
  case round =>
    obtain ⟨k, hk, rfl, HD⟩ := hrel
    by_cases hlt : k < s.size
    · have hbyte : (s[k].toNat : Int) ≤ 255 := by have := s[k].toNat_lt; omega
      obtain ⟨x, hx⟩ : ∃ x, wrap64 (s[k].toNat : Int) = x := ⟨_, rfl⟩
      have HX : Hid ((s[k].toNat : Int) = x) := by rw [← hx]; exact (IntWalk.wrap64_in _ ⟨by omega, by omega⟩).symm
      clear hbyte
      have HN : Hid (ChOk k x → ∀ (j : Nat) (h : j < s.size), j < k + 1 → ChOk j (s[j].toNat : Int)) := fun hc j hj hjk => by
        by_cases h : j < k
        · exact HD.out j hj h
        · obtain rfl : j = k := by omega
          rw [HX.out]; exact hc
      have HF : Hid (¬ ChOk k x → ¬ AtomP s) := fun hc ha => hc (by rw [← HX.out]; exact ha.1 k hlt)
      go_wp2_with fail
      clear hx
      generalize Value.int IntKind.u8 (s[k].toNat : Int) = u
      by_cases hsm : 97 ≤ x ∧ x ≤ 122
      · have hL := specIn_any x 97 122 w
        rw [show decide (97 ≤ x ∧ x ≤ 122) = true from by simp [hsm]] at hL
        have HR := HN.out (.inl hsm)
        have HRR : Hid (∀ (j : Nat) (h : j < s.size), j < k + 1 → ChOk j (s[j].toNat : Int)) := HR
        clear HR HN HF HX HD hsm
        refine hL.mono ?_
        clear hL
        rintro e w' ⟨rfl, rfl⟩
        go_wp2_with fail
        go_round
        case rel => exact ⟨k + 1, by omega, by go_num, HRR⟩
        case measure => simp [intOf]; omega
      · have hL := specIn_any x 97 122 w
        rw [show decide (97 ≤ x ∧ x ≤ 122) = false from by simp; omega] at hL
        refine hL.mono ?_
        clear hL
        rintro e w' ⟨rfl, rfl⟩
        by_cases hk0 : k = 0
        · have hb0 : ((k : Int) == 0) = true := by simp [hk0]
          have HR : Hid (¬ AtomP s) := HF.out (fun h => by rcases h with h | h; exact hsm h; exact h.1 hk0)
          clear HF HN HX HD hsm hk0
          go_wp2_with fail
          go_ret
          exact ⟨false, rfl, by simp only [Bool.false_eq_true, false_iff]; exact HR.out, rfl⟩
        · have hb0 : ((k : Int) == 0) = false := by simp [hk0]
          by_cases hdg : 48 ≤ x ∧ x ≤ 57
          · have hL := specIn_any x 48 57 w
            rw [show decide (48 ≤ x ∧ x ≤ 57) = true from by simp [hdg]] at hL
            have HRR : Hid (∀ (j : Nat) (h : j < s.size), j < k + 1 → ChOk j (s[j].toNat : Int)) := HN.out (.inr ⟨hk0, .inl hdg⟩)
            clear HN HF HX HD hsm hdg hk0
            go_wp2_with fail
            refine hL.mono ?_
            clear hL
            rintro e w' ⟨rfl, rfl⟩
            go_wp2_with fail
            go_round
            case rel => exact ⟨k + 1, by omega, by go_num, HRR⟩
            case measure => simp [intOf]; omega
          · have hL := specIn_any x 48 57 w
            rw [show decide (48 ≤ x ∧ x ≤ 57) = false from by simp; omega] at hL
            by_cases hu : x = 95
            · have hub : (x != 95) = false := by simp [hu]
              have HRR : Hid (∀ (j : Nat) (h : j < s.size), j < k + 1 → ChOk j (s[j].toNat : Int)) := HN.out (.inr ⟨hk0, .inr hu⟩)
              clear HN HF HX HD hsm hdg hk0 hu
              go_wp2_with fail
              refine hL.mono ?_
              clear hL
              rintro e w' ⟨rfl, rfl⟩
              go_wp2_with fail
              go_round
              case rel => exact ⟨k + 1, by omega, by go_num, HRR⟩
              case measure => simp [intOf]; omega
            · have hub : (x != 95) = true := by simp [hu]
              have HR : Hid (¬ AtomP s) := HF.out (fun h => by rcases h with h | ⟨_, h | h⟩; exact hsm h; exact hdg h; exact hu h)
              clear HF HN HX HD hsm hdg hk0 hu
              go_wp2_with fail
              refine hL.mono ?_
              clear hL
              rintro e w' ⟨rfl, rfl⟩
              go_wp2_with fail
              go_ret
              exact ⟨false, rfl, by simp only [Bool.false_eq_true, false_iff]; exact HR.out, rfl⟩
    · have hL := specIn_any s.size 1 20 w
      go_wp2_with fail
      refine hL.mono ?_
      clear hL
      rintro e w' ⟨rfl, rfl⟩
      have HF : Hid ((decide (1 ≤ (s.size : Int)) && decide ((s.size : Int) ≤ 20)) = true ↔ AtomP s) := by
        show _ ↔ _
        rw [Bool.and_eq_true, decide_eq_true_iff, decide_eq_true_iff]
        exact ⟨fun h => ⟨fun j hj => HD.out j hj (by omega), by omega, by omega⟩, fun h => ⟨by have := h.2.1; omega, by have := h.2.2; omega⟩⟩
      go_wp2
      go_ret
      exact ⟨_, rfl, HF.out, rfl⟩

/-- A term that is right, all but what is in it. -/
def Shape (k n : Int) (s : ByteArray) (len : Nat) : Prop :=
  (k = 1 ∧ (-1000000000000 ≤ n ∧ n ≤ 1000000000000) ∧ s.size = 0 ∧ len = 0) ∨ (k = 2 ∧ AtomP s ∧ n = 0 ∧ len = 0) ∨ (k = 3 ∧ (0 ≤ n ∧ n ≤ 1000000) ∧ s.size = 0 ∧ len = 0) ∨ (k = 4 ∧ n = 0 ∧ s.size = 0 ∧ len ≤ 20) ∨ (k = 5 ∧ n = 0 ∧ s.size = 0 ∧ len ≤ 60)

theorem shape1 (n : Int) (s : ByteArray) (len : Nat) : Shape 1 n s len ↔ (-1000000000000 ≤ n ∧ n ≤ 1000000000000) ∧ s.size = 0 ∧ len = 0 := by simp [Shape]
theorem shape2 (n : Int) (s : ByteArray) (len : Nat) : Shape 2 n s len ↔ AtomP s ∧ n = 0 ∧ len = 0 := by simp [Shape]
theorem shape3 (n : Int) (s : ByteArray) (len : Nat) : Shape 3 n s len ↔ (0 ≤ n ∧ n ≤ 1000000) ∧ s.size = 0 ∧ len = 0 := by simp [Shape]
theorem shape4 (n : Int) (s : ByteArray) (len : Nat) : Shape 4 n s len ↔ n = 0 ∧ s.size = 0 ∧ len ≤ 20 := by simp [Shape]
theorem shape5 (n : Int) (s : ByteArray) (len : Nat) : Shape 5 n s len ↔ n = 0 ∧ s.size = 0 ∧ len ≤ 60 := by simp [Shape]

theorem empty_iff (s : ByteArray) : s.toList.isEmpty = true ↔ s.size = 0 := by
  rw [ByteArray.toList_eq, List.isEmpty_iff, Array.toList_eq_nil_iff]
  exact ⟨fun h => by show s.data.size = 0; rw [h]; rfl, fun h => Array.eq_empty_of_size_eq_zero h⟩
theorem empty_no {s : ByteArray} (h : ¬ s.size = 0) : s.toList.isEmpty = false := by
  cases h' : s.toList.isEmpty with
  | false => rfl
  | true => exact absurd ((empty_iff s).1 h') h

/-- The contract of the check of a shape. -/
def ShapeC (f : Nat) : Prop := ∀ (k n : Int) (s : ByteArray) (a : Option Addr) (len c : Nat) (w : World), s.size ≤ 9223372036854775807 → len ≤ 9223372036854775807 →
  Calls Try.prog f #[.agg #[.int .i64 k, .int .i64 n, .string s, .slice a len c]] w fun e w' => ∃ b : Bool, e = .returned (.bool b) ∧ (b = true ↔ Shape k n s len) ∧ Below w.heap.size w w'

set_option maxHeartbeats 2000000 in
theorem specShape_any : ShapeC 121 := by
  intro k n s a len c w hs hlen
  have hA : Below w.heap.size w (w.alloc (.cells #[.int .i64 k, .int .i64 n, .string s, .slice a len c] 26)) := (Below.refl _ _).alloc (Nat.le_refl _) _
  by_cases h1 : k = 1
  · subst h1
    rw [shape1]
    have hL := specIn_any n (-1000000000000) 1000000000000 (w.alloc (.cells #[.int .i64 1, .int .i64 n, .string s, .slice a len c] 26))
    by_cases hn : -1000000000000 ≤ n ∧ n ≤ 1000000000000
    · rw [show decide (-1000000000000 ≤ n ∧ n ≤ 1000000000000) = true from by simp [hn]] at hL
      by_cases hse : s.size = 0
      · have he := (empty_iff s).2 hse
        by_cases hl0 : len = 0
        · have hlb : ((len : Int) == 0) = true := by simp [hl0]
          have HF : Hid ((-1000000000000 ≤ n ∧ n ≤ 1000000000000) ∧ s.size = 0 ∧ len = 0) := ⟨hn, hse, hl0⟩
          clear hn hse hl0
          go_enter Try.func121, Try.ntmps121
          go_wp2_with fail
          refine hL.mono ?_
          clear hL
          rintro e w' ⟨rfl, rfl⟩
          go_wp2_with fail
          go_ret
          exact ⟨true, rfl, iff_yes HF.out, hA⟩
        · have hlb : ((len : Int) == 0) = false := by simp [hl0]
          have HF : Hid (¬ ((-1000000000000 ≤ n ∧ n ≤ 1000000000000) ∧ s.size = 0 ∧ len = 0)) := fun h => hl0 h.2.2
          clear hn hse hl0
          go_enter Try.func121, Try.ntmps121
          go_wp2_with fail
          refine hL.mono ?_
          clear hL
          rintro e w' ⟨rfl, rfl⟩
          go_wp2_with fail
          go_ret
          exact ⟨false, rfl, iff_no HF.out, hA⟩
      · have he := empty_no hse
        have HF : Hid (¬ ((-1000000000000 ≤ n ∧ n ≤ 1000000000000) ∧ s.size = 0 ∧ len = 0)) := fun h => hse h.2.1
        clear hn hse
        go_enter Try.func121, Try.ntmps121
        go_wp2_with fail
        refine hL.mono ?_
        clear hL
        rintro e w' ⟨rfl, rfl⟩
        go_wp2_with fail
        go_ret
        exact ⟨false, rfl, iff_no HF.out, hA⟩
    · rw [show decide (-1000000000000 ≤ n ∧ n ≤ 1000000000000) = false from by simp; omega] at hL
      have HF : Hid (¬ ((-1000000000000 ≤ n ∧ n ≤ 1000000000000) ∧ s.size = 0 ∧ len = 0)) := fun h => hn h.1
      clear hn
      go_enter Try.func121, Try.ntmps121
      go_wp2_with fail
      refine hL.mono ?_
      clear hL
      rintro e w' ⟨rfl, rfl⟩
      go_wp2_with fail
      go_ret
      exact ⟨false, rfl, iff_no HF.out, hA⟩
  by_cases h2 : k = 2
  · subst h2
    rw [shape2]
    have hL := specAtomOk_any s (w.alloc (.cells #[.int .i64 2, .int .i64 n, .string s, .slice a len c] 26)) hs
    go_enter Try.func121, Try.ntmps121
    go_wp2_with fail
    refine hL.mono ?_
    clear hL
    rintro e w' ⟨b, rfl, hb, rfl⟩
    cases b
    · have HF : Hid (¬ (AtomP s ∧ n = 0 ∧ len = 0)) := fun h => by have := hb.2 h.1; cases this
      clear hb
      go_wp2_with fail
      go_ret
      exact ⟨false, rfl, iff_no HF.out, hA⟩
    · have HA : Hid (AtomP s) := hb.1 rfl
      clear hb
      by_cases hn : n = 0
      · have hnb : (n == 0) = true := by simp [hn]
        by_cases hl0 : len = 0
        · have hlb : ((len : Int) == 0) = true := by simp [hl0]
          have HF : Hid (AtomP s ∧ n = 0 ∧ len = 0) := ⟨HA.out, hn, hl0⟩
          clear hn hl0
          go_wp2_with fail
          go_ret
          exact ⟨true, rfl, iff_yes HF.out, hA⟩
        · have hlb : ((len : Int) == 0) = false := by simp [hl0]
          have HF : Hid (¬ (AtomP s ∧ n = 0 ∧ len = 0)) := fun h => hl0 h.2.2
          clear hn hl0
          go_wp2_with fail
          go_ret
          exact ⟨false, rfl, iff_no HF.out, hA⟩
      · have hnb : (n == 0) = false := by simp [hn]
        have HF : Hid (¬ (AtomP s ∧ n = 0 ∧ len = 0)) := fun h => hn h.2.1
        clear hn
        go_wp2_with fail
        go_ret
        exact ⟨false, rfl, iff_no HF.out, hA⟩
  by_cases h3 : k = 3
  · subst h3
    rw [shape3]
    have hL := specIn_any n (0) 1000000 (w.alloc (.cells #[.int .i64 3, .int .i64 n, .string s, .slice a len c] 26))
    by_cases hn : 0 ≤ n ∧ n ≤ 1000000
    · rw [show decide (0 ≤ n ∧ n ≤ 1000000) = true from by simp [hn]] at hL
      by_cases hse : s.size = 0
      · have he := (empty_iff s).2 hse
        by_cases hl0 : len = 0
        · have hlb : ((len : Int) == 0) = true := by simp [hl0]
          have HF : Hid ((0 ≤ n ∧ n ≤ 1000000) ∧ s.size = 0 ∧ len = 0) := ⟨hn, hse, hl0⟩
          clear hn hse hl0
          go_enter Try.func121, Try.ntmps121
          go_wp2_with fail
          refine hL.mono ?_
          clear hL
          rintro e w' ⟨rfl, rfl⟩
          go_wp2_with fail
          go_ret
          exact ⟨true, rfl, iff_yes HF.out, hA⟩
        · have hlb : ((len : Int) == 0) = false := by simp [hl0]
          have HF : Hid (¬ ((0 ≤ n ∧ n ≤ 1000000) ∧ s.size = 0 ∧ len = 0)) := fun h => hl0 h.2.2
          clear hn hse hl0
          go_enter Try.func121, Try.ntmps121
          go_wp2_with fail
          refine hL.mono ?_
          clear hL
          rintro e w' ⟨rfl, rfl⟩
          go_wp2_with fail
          go_ret
          exact ⟨false, rfl, iff_no HF.out, hA⟩
      · have he := empty_no hse
        have HF : Hid (¬ ((0 ≤ n ∧ n ≤ 1000000) ∧ s.size = 0 ∧ len = 0)) := fun h => hse h.2.1
        clear hn hse
        go_enter Try.func121, Try.ntmps121
        go_wp2_with fail
        refine hL.mono ?_
        clear hL
        rintro e w' ⟨rfl, rfl⟩
        go_wp2_with fail
        go_ret
        exact ⟨false, rfl, iff_no HF.out, hA⟩
    · rw [show decide (0 ≤ n ∧ n ≤ 1000000) = false from by simp; omega] at hL
      have HF : Hid (¬ ((0 ≤ n ∧ n ≤ 1000000) ∧ s.size = 0 ∧ len = 0)) := fun h => hn h.1
      clear hn
      go_enter Try.func121, Try.ntmps121
      go_wp2_with fail
      refine hL.mono ?_
      clear hL
      rintro e w' ⟨rfl, rfl⟩
      go_wp2_with fail
      go_ret
      exact ⟨false, rfl, iff_no HF.out, hA⟩
  by_cases h4 : k = 4
  · subst h4
    rw [shape4]
    by_cases hn : n = 0
    · have hnb : (n == 0) = true := by simp [hn]
      by_cases hse : s.size = 0
      · have he := (empty_iff s).2 hse
        by_cases hl0 : len ≤ 20
        · have HF : Hid (n = 0 ∧ s.size = 0 ∧ len ≤ 20) := ⟨hn, hse, hl0⟩
          have hlb : decide ((len : Int) ≤ 20) = true := by simp; omega
          clear hn hse hl0
          go_enter Try.func121, Try.ntmps121
          go_wp2_with fail
          go_ret
          exact ⟨true, rfl, iff_yes HF.out, hA⟩
        · have HF : Hid (¬ (n = 0 ∧ s.size = 0 ∧ len ≤ 20)) := fun h => hl0 h.2.2
          have hlb : decide ((len : Int) ≤ 20) = false := by simp; omega
          clear hn hse hl0
          go_enter Try.func121, Try.ntmps121
          go_wp2_with fail
          go_ret
          exact ⟨false, rfl, iff_no HF.out, hA⟩
      · have he := empty_no hse
        have HF : Hid (¬ (n = 0 ∧ s.size = 0 ∧ len ≤ 20)) := fun h => hse h.2.1
        clear hn hse
        go_enter Try.func121, Try.ntmps121
        go_wp2_with fail
        go_ret
        exact ⟨false, rfl, iff_no HF.out, hA⟩
    · have hnb : (n == 0) = false := by simp [hn]
      have HF : Hid (¬ (n = 0 ∧ s.size = 0 ∧ len ≤ 20)) := fun h => hn h.1
      clear hn
      go_enter Try.func121, Try.ntmps121
      go_wp2_with fail
      go_ret
      exact ⟨false, rfl, iff_no HF.out, hA⟩
  by_cases h5 : k = 5
  · subst h5
    rw [shape5]
    by_cases hn : n = 0
    · have hnb : (n == 0) = true := by simp [hn]
      by_cases hse : s.size = 0
      · have he := (empty_iff s).2 hse
        by_cases hl0 : len ≤ 60
        · have HF : Hid (n = 0 ∧ s.size = 0 ∧ len ≤ 60) := ⟨hn, hse, hl0⟩
          have hlb : decide ((len : Int) ≤ 60) = true := by simp; omega
          clear hn hse hl0
          go_enter Try.func121, Try.ntmps121
          go_wp2_with fail
          go_ret
          exact ⟨true, rfl, iff_yes HF.out, hA⟩
        · have HF : Hid (¬ (n = 0 ∧ s.size = 0 ∧ len ≤ 60)) := fun h => hl0 h.2.2
          have hlb : decide ((len : Int) ≤ 60) = false := by simp; omega
          clear hn hse hl0
          go_enter Try.func121, Try.ntmps121
          go_wp2_with fail
          go_ret
          exact ⟨false, rfl, iff_no HF.out, hA⟩
      · have he := empty_no hse
        have HF : Hid (¬ (n = 0 ∧ s.size = 0 ∧ len ≤ 60)) := fun h => hse h.2.1
        clear hn hse
        go_enter Try.func121, Try.ntmps121
        go_wp2_with fail
        go_ret
        exact ⟨false, rfl, iff_no HF.out, hA⟩
    · have hnb : (n == 0) = false := by simp [hn]
      have HF : Hid (¬ (n = 0 ∧ s.size = 0 ∧ len ≤ 60)) := fun h => hn h.1
      clear hn
      go_enter Try.func121, Try.ntmps121
      go_wp2_with fail
      go_ret
      exact ⟨false, rfl, iff_no HF.out, hA⟩
  have HF : Hid (¬ Shape k n s len) := fun h => by rcases h with h | h | h | h | h; exact h1 h.1; exact h2 h.1; exact h3 h.1; exact h4 h.1; exact h5 h.1
  have e1 : (k == 1) = false := by simp [h1]
  have e2 : (k == 2) = false := by simp [h2]
  have e3 : (k == 3) = false := by simp [h3]
  have e4 : (k == 4) = false := by simp [h4]
  have e5 : (k == 5) = false := by simp [h5]
  clear h1 h2 h3 h4 h5
  go_enter Try.func121, Try.ntmps121
  go_wp2_with fail
  go_ret
  exact ⟨false, rfl, iff_no HF.out, hA⟩

end Go.Proofs.Ythjmbbpakidkdaa

/- When a term is right in all its storeys, and that the model's walk over it tells it. -/
namespace Go.Proofs.Ythjmbbpakidkdaa
open Go.RowKit
set_option linter.unusedVariables false

/-- All terms of a list have their shapes, all storeys. -/
def OkL : (d : Nat) → List (Tm d) → Prop
  | 0, _ => True
  | d + 1, ts => ∀ t ∈ ts, Shape t.K t.N t.S t.L.length ∧ OkL d t.L

/-- A term that is right, no deeper than told, of no more than are left. -/
def Right (d : Nat) (k n : Int) (s : ByteArray) (ts : List (Tm d)) (deep left : Int) : Prop :=
  Shape k n s ts.length ∧ OkL d ts ∧ ((1 + depL d ts : Nat) : Int) ≤ deep ∧ ((1 + cntL d ts : Nat) : Int) ≤ left

theorem depL_le {d : Nat} {ts : List (Tm (d + 1))} {m : Nat} : depL (d + 1) ts ≤ m ↔ ∀ t ∈ ts, 1 + depL d t.L ≤ m := by
  constructor
  · intro h t ht
    have := (foldl_max_ge (ts.map fun t => 1 + depL d t.L) 0).2 _ (List.mem_map.2 ⟨t, ht, rfl⟩)
    exact Nat.le_trans this h
  · intro h
    refine foldl_max_le _ 0 m (Nat.zero_le _) fun x hx => ?_
    obtain ⟨t, ht, rfl⟩ := List.mem_map.1 hx
    exact h t ht

/-- The contract of a walk that tells how many may be left. -/
def LookC (f d : Nat) : Prop := ∀ (k n : Int) (s : ByteArray) (l : Value) (ts : List (Tm d)) (deep left : Int) (w : World), RdL d w l ts → WfL d ts → s.size ≤ 9223372036854775807 → -1000 ≤ deep → deep ≤ 1000 → -1000 ≤ left → left ≤ 1000000 →
  Calls Try.prog f #[.agg #[.int .i64 k, .int .i64 n, .string s, l], .int .i64 deep, .int .i64 left] w fun e w' => ∃ r : Int, e = .returned (.int .i64 r) ∧ ((Right d k n s ts deep left ∧ r = left - (1 + cntL d ts : Nat)) ∨ (¬ Right d k n s ts deep left ∧ r = -1)) ∧ Below w.heap.size w w'

set_option maxHeartbeats 1000000 in
/-- What is refused at once. -/
theorem specLook_no (k n : Int) (s : ByteArray) (a : Option Addr) (len c : Nat) (deep left : Int) (w : World) (hs : s.size ≤ 9223372036854775807) (hl : len ≤ 9223372036854775807)
    (h : deep < 1 ∨ left < 1 ∨ ¬ Shape k n s len) :
    Calls Try.prog 71 #[.agg #[.int .i64 k, .int .i64 n, .string s, .slice a len c], .int .i64 deep, .int .i64 left] w fun e w' => e = .returned (.int .i64 (-1)) ∧ Below w.heap.size w w' := by
  obtain ⟨W, hW⟩ : ∃ W, W = w.alloc (.cells #[.int .i64 k, .int .i64 n, .string s, .slice a len c] 26) := ⟨_, rfl⟩
  have hA : Below w.heap.size w W := by rw [hW]; exact (Below.refl _ _).alloc (Nat.le_refl _) _
  by_cases h1 : deep < 1
  · rw [hW] at hA
    clear hW
    go_enter Try.func71, Try.ntmps71
    go_wp2_with fail
    go_ret
    exact ⟨rfl, hA⟩
  · by_cases h2 : left < 1
    · rw [hW] at hA
      clear hW
      go_enter Try.func71, Try.ntmps71
      go_wp2_with fail
      go_ret
      exact ⟨rfl, hA⟩
    · have h3 : Hid (¬ Shape k n s len) := by rcases h with h | h | h; exact absurd h h1; exact absurd h h2; exact h
      have hC := specShape_any k n s a len c W hs hl
      rw [hW] at hC
      have HW : Hid (W = _) := hW
      clear h hW
      go_enter Try.func71, Try.ntmps71
      go_wp2_with fail
      refine hC.mono ?_
      clear hC
      rintro e w1 ⟨b, rfl, hb, hB⟩
      rw [← HW.out] at hB
      have hb2 : Below w.heap.size w w1 := hA.trans (hB.mono hA.size)
      have : b = false := by cases b; rfl; exact absurd (hb.1 rfl) h3.out
      subst this
      clear hb hB hA HW h3
      go_wp2_with fail
      go_ret
      exact ⟨rfl, hb2⟩

theorem right_zero {k n : Int} {s : ByteArray} {ts : List (Tm 0)} {deep left : Int} (h1 : ¬ deep < 1) (h2 : ¬ left < 1) (h3 : Shape k n s ts.length) : Right 0 k n s ts deep left :=
  ⟨h3, trivial, by show ((1 + 0 : Nat) : Int) ≤ deep; omega, by show ((1 + 0 : Nat) : Int) ≤ left; omega⟩

/-- The first j terms of a list are right. -/
def RightP (d : Nat) (ts : List (Tm (d + 1))) (deep left : Int) (j : Nat) : Prop :=
  (∀ i t, i < j → ts[i]? = some t → Shape t.K t.N t.S t.L.length ∧ OkL d t.L ∧ ((1 + depL d t.L : Nat) : Int) ≤ deep - 1) ∧ ((1 + cntP d ts j : Nat) : Int) ≤ left

theorem rightP_all {d : Nat} {k n : Int} {s : ByteArray} {ts : List (Tm (d + 1))} {deep left : Int} {j : Nat} (hd : ¬ deep < 1) (h3 : Shape k n s ts.length) (hj : ts.length ≤ j) (h : RightP d ts deep left j) : Right (d + 1) k n s ts deep left := by
  refine ⟨h3, fun t ht => ?_, ?_, by have := h.2; rw [cntP_all d ts j hj] at this; exact this⟩
  · obtain ⟨i, hi, e⟩ := List.getElem_of_mem ht
    have := h.1 i t (by omega) (by rw [List.getElem?_eq_getElem hi, e])
    exact ⟨this.1, this.2.1⟩
  · have : depL (d + 1) ts ≤ (deep - 1).toNat := depL_le.2 fun t ht => by
      obtain ⟨i, hi, e⟩ := List.getElem_of_mem ht
      have := (h.1 i t (by omega) (by rw [List.getElem?_eq_getElem hi, e])).2.2
      omega
    omega

theorem right_elem {d : Nat} {k n : Int} {s : ByteArray} {ts : List (Tm (d + 1))} {deep left : Int} {j : Nat} {t : Tm (d + 1)} (ht : ts[j]? = some t) (h : Right (d + 1) k n s ts deep left) : Right d t.K t.N t.S t.L (deep - 1) (left - 1 - cntP d ts j) := by
  have hm := List.mem_of_getElem? ht
  obtain ⟨_, h2, h3, h4⟩ := h
  have h5 := h2 t hm
  have h6 : 1 + depL d t.L ≤ depL (d + 1) ts := (depL_le (m := depL (d + 1) ts)).1 (Nat.le_refl _) t hm
  have h7 := cntP_succ d ts j t ht
  have h8 := cntP_le d ts (j + 1)
  exact ⟨h5.1, h5.2, by omega, by omega⟩

theorem rightP_step {d : Nat} {ts : List (Tm (d + 1))} {deep left : Int} {j : Nat} {t : Tm (d + 1)} (ht : ts[j]? = some t) (h : RightP d ts deep left j) (hr : Right d t.K t.N t.S t.L (deep - 1) (left - 1 - cntP d ts j)) : RightP d ts deep left (j + 1) := by
  have h7 := cntP_succ d ts j t ht
  obtain ⟨r1, r2, r3, r4⟩ := hr
  refine ⟨fun i u hi hu => ?_, by omega⟩
  by_cases hij : i < j
  · exact h.1 i u hij hu
  · obtain rfl : i = j := by omega
    rw [ht] at hu
    obtain rfl := Option.some.inj hu
    exact ⟨r1, r2, r3⟩

set_option maxHeartbeats 2000000 in
theorem specLook_any : ∀ d, LookC 71 d := by
  intro d
  induction d with
  | zero =>
    intro k n s l ts deep left w hr hw hs hd0 hd1 hl0 hl1
    obtain ⟨a, c, rfl⟩ := hr.len
    have hln := hw.len
    by_cases h : deep < 1 ∨ left < 1 ∨ ¬ Shape k n s ts.length
    · refine (specLook_no k n s a _ c deep left w hs hln h).mono ?_
      rintro e w' ⟨rfl, hb⟩
      refine ⟨-1, rfl, .inr ⟨fun hR => ?_, rfl⟩, hb⟩
      obtain ⟨r1, _, r3, r4⟩ := hR
      rcases h with h | h | h
      · omega
      · omega
      · exact h r1
    · have h1 : ¬ deep < 1 := fun e => h (.inl e)
      have h2 : ¬ left < 1 := fun e => h (.inr (.inl e))
      have h3 : Shape k n s ts.length := Classical.byContradiction fun e => h (.inr (.inr e))
      have HR : Hid (Right 0 k n s ts deep left) := right_zero h1 h2 h3
      have hz : ts.length = 0 := by
        cases ts with
        | nil => rfl
        | cons t _ => exact Empty.elim t
      have H3 : Hid (Shape k n s 0) := by rw [← hz]; exact h3
      rw [hz]
      obtain ⟨W, hW⟩ : ∃ W, W = w.alloc (.cells #[.int .i64 k, .int .i64 n, .string s, .slice a 0 c] 26) := ⟨_, rfl⟩
      have hA : Below w.heap.size w W := by rw [hW]; exact (Below.refl _ _).alloc (Nat.le_refl _) _
      have hWz : W.heap.size = w.heap.size + 1 := by rw [hW]; simp
      have hB1 : W.heap[w.heap.size]? = some (.cells #[.int .i64 k, .int .i64 n, .string s, .slice a 0 c] 26 (0, 0)) := by rw [hW]; exact heap_alloc_new w _
      have hC := specShape_any k n s a 0 c W hs (by omega)
      rw [hW] at hC
      have HW : Hid (W = _) := hW
      clear h hW h3
      go_enter Try.func71, Try.ntmps71
      go_wp2_with fail
      refine hC.mono ?_
      clear hC
      rintro e w1 ⟨b, rfl, hb, hB⟩
      rw [← HW.out] at hB
      have hb2 : Below w.heap.size w w1 := hA.trans (hB.mono hA.size)
      have : b = true := hb.2 H3.out
      subst this
      have c1 : w1.cell? ⟨w.heap.size, 3, none⟩ = some (.slice a 0 c) := by rw [cell_of_row w1 _ 3 _ _ _ ((hB.block _ (by omega)).trans hB1)]; rfl
      clear hb hB hA HW hB1
      go_wp2_with fail
      refine wp_loop_rounds 1 ?_
      rw [rounds_succ]
      go_wp2
      go_ret
      exact ⟨_, rfl, .inl ⟨HR.out, rfl⟩, hb2⟩
  | succ d ih =>
    intro k n s l ts deep left w hr hw hs hd0 hd1 hl0 hl1
    obtain ⟨a, c, rfl, hel⟩ := hr
    have hln := hw.len
    by_cases h : deep < 1 ∨ left < 1 ∨ ¬ Shape k n s ts.length
    · refine (specLook_no k n s a _ c deep left w hs hln h).mono ?_
      rintro e w' ⟨rfl, hb⟩
      refine ⟨-1, rfl, .inr ⟨fun hR => ?_, rfl⟩, hb⟩
      obtain ⟨r1, _, r3, r4⟩ := hR
      rcases h with h | h | h
      · omega
      · omega
      · exact h r1
    · have h1 : ¬ deep < 1 := fun e => h (.inl e)
      have h2 : ¬ left < 1 := fun e => h (.inr (.inl e))
      have H3 : Hid (Shape k n s ts.length) := Classical.byContradiction fun e => h (.inr (.inr e))
      have HE : Hid (∀ (i : Nat) (t : Tm (d + 1)), ts[i]? = some t → ∃ b o lv, a = some ⟨b, o, none⟩ ∧ Four w b (o + i * 4) t.K t.N t.S lv ∧ RdL d w lv t.L) := hel
      have HWF : Hid (WfL (d + 1) ts) := hw
      obtain ⟨len, hl⟩ : ∃ len, ts.length = len := ⟨_, rfl⟩
      have HL : Hid (ts.length = len) := hl
      rw [hl] at hln ⊢
      obtain ⟨W, hW⟩ : ∃ W, W = w.alloc (.cells #[.int .i64 k, .int .i64 n, .string s, .slice a len c] 26) := ⟨_, rfl⟩
      have hA : Below w.heap.size w W := by rw [hW]; exact (Below.refl _ _).alloc (Nat.le_refl _) _
      have hWz : W.heap.size = w.heap.size + 1 := by rw [hW]; simp
      have hB1 : W.heap[w.heap.size]? = some (.cells #[.int .i64 k, .int .i64 n, .string s, .slice a len c] 26 (0, 0)) := by rw [hW]; exact heap_alloc_new w _
      have hC := specShape_any k n s a len c W hs hln
      rw [hW] at hC
      have HW : Hid (W = _) := hW
      have HI : Hid (LookC 71 d) := ih
      clear h hW ih hel hw hl
      go_enter Try.func71, Try.ntmps71
      go_wp2_with fail
      refine hC.mono ?_
      clear hC
      rintro e w1 ⟨b, rfl, hb, hB⟩
      rw [← HW.out] at hB
      have : b = true := hb.2 (by rw [← HL.out]; exact H3.out)
      subst this
      have HB1 : Hid (w1.heap[w.heap.size]? = _) := (hB.block _ (by omega)).trans hB1
      have hbw1 : Below w.heap.size w w1 := hA.trans (hB.mono hA.size)
      have hwz : w.heap.size < w1.heap.size := by have := hB.size; omega
      clear hb hB hA HW hB1 hWz
      go_wp2_with fail
      go_loopw [2, 7] (fun x i wr => ∃ (j : Nat) (y : Int), j ≤ len ∧ i = .int .i64 j ∧ x = .int .i64 y ∧ Below w1.heap.size w1 wr ∧ Hid ((RightP d ts deep left j ∧ y = left - 1 - cntP d ts j) ∨ (¬ Right (d + 1) k n s ts deep left ∧ y = -1))) (fun _ i _ => len - (intOf i).toNat)
      case atStart => exact ⟨0, _, Nat.zero_le _, rfl, rfl, Below.refl _ _, .inl ⟨⟨fun i t hi => by omega, by show ((1 + 0 : Nat) : Int) ≤ left; omega⟩, by show left - 1 = left - 1 - ((0 : Nat) : Int); omega⟩⟩
      case round =>
        obtain ⟨j, y, hj, rfl, rfl, hb, HS⟩ := hrel
        have c1 : wr.cell? ⟨w.heap.size, 3, none⟩ = some (.slice a len c) := by rw [cell_of_row wr _ 3 _ _ _ ((hb.block _ hwz).trans HB1.out)]; rfl
        have hbw : Below w.heap.size w wr := hbw1.trans (hb.mono hbw1.size)
        rcases HS.out with ⟨hP, hy⟩ | ⟨hN, hy⟩
        · have hy0 : 0 ≤ y := by have := hP.2; omega
          have hy1 : y ≤ 1000000 := by omega
          by_cases hjl : j < len
          · obtain ⟨t, ht⟩ : ∃ t, ts[j]? = some t := ⟨_, List.getElem?_eq_getElem (by rw [HL.out]; exact hjl)⟩
            obtain ⟨b1, o1, lv1, rfl, F1, L1⟩ := HE.out j t ht
            obtain ⟨_, _, hst, hwt⟩ := HWF.out.2 t (List.mem_of_getElem? ht)
            obtain ⟨f0, f1, f2, f3⟩ := F1.later hbw
            have hC := HI.out t.K t.N t.S lv1 t.L (deep - 1) y wr (L1.later hbw) hwt hst (by omega) (by omega) (by omega) (by omega)
            have HNX : Hid (∀ r : Int, ((Right d t.K t.N t.S t.L (deep - 1) y ∧ r = y - (1 + cntL d t.L : Nat)) ∨ (¬ Right d t.K t.N t.S t.L (deep - 1) y ∧ r = -1)) → (RightP d ts deep left (j + 1) ∧ r = left - 1 - cntP d ts (j + 1)) ∨ (¬ Right (d + 1) k n s ts deep left ∧ r = -1)) := fun r hr => by
              have hstep := cntP_succ d ts j t ht
              rcases hr with ⟨r1, r2⟩ | ⟨r1, r2⟩
              · rw [hy] at r1
                exact .inl ⟨rightP_step ht hP r1, by omega⟩
              · exact .inr ⟨fun hR => r1 (by rw [hy]; exact right_elem ht hR), r2⟩
            have hjl' : (j : Int) < (len : Int) := by omega
            clear F1 L1 hwt hst ht hP hy HS
            go_wp2_with fail
            refine hC.mono ?_
            clear hC
            rintro e V ⟨r, rfl, hr, hB⟩
            have HR2 : Hid _ := HNX.out r hr
            have hb2 : Below w1.heap.size w1 V := hb.trans (hB.mono hb.size)
            clear hb hB f0 f1 f2 f3 c1 hr HNX
            go_wp2
            go_roundw
            case rel => exact ⟨j + 1, r, by omega, by go_num, rfl, hb2, HR2⟩
            case measure => simp [intOf]; omega
          · have HR : Hid (Right (d + 1) k n s ts deep left) := rightP_all (by omega) H3.out (by have := HL.out; omega) hP
            have HY : Hid (y = left - (1 + cntL (d + 1) ts : Nat)) := by have := cntP_all d ts j (by have := HL.out; omega); show _ = _; omega
            clear hb hP hy HS
            go_wp2
            go_ret
            exact ⟨y, rfl, .inl ⟨HR.out, HY.out⟩, hbw⟩
        · have HR : Hid (¬ Right (d + 1) k n s ts deep left) := hN
          subst hy
          clear hb hN HS
          by_cases hjl : j < len
          · have hjl' : (j : Int) < (len : Int) := by omega
            go_wp2
            go_ret
            exact ⟨-1, rfl, .inr ⟨HR.out, rfl⟩, hbw⟩
          · go_wp2
            go_ret
            exact ⟨-1, rfl, .inr ⟨HR.out, rfl⟩, hbw⟩

set_option maxHeartbeats 400000 in
/-- The model's check of a term: right, at most 8 deep, at most 300 in all. -/
theorem specTermOk_any (d : Nat) (k n : Int) (s : ByteArray) (l : Value) (ts : List (Tm d)) (w : World) (hr : RdL d w l ts) (hw : WfL d ts) (hs : s.size ≤ 9223372036854775807) :
    Calls Try.prog 21 #[.agg #[.int .i64 k, .int .i64 n, .string s, l]] w fun e w' => ∃ b : Bool, e = .returned (.bool b) ∧ (b = true ↔ Right d k n s ts 8 300) ∧ Below w.heap.size w w' := by
  have hA : Below w.heap.size w (w.alloc (.cells #[.int .i64 k, .int .i64 n, .string s, l] 26)) := (Below.refl _ _).alloc (Nat.le_refl _) _
  obtain ⟨a, c, e⟩ := hr.len
  have hC := specLook_any d k n s l ts 8 300 _ (hr.later hA) hw hs (by omega) (by omega) (by omega) (by omega)
  rw [e] at hC hA ⊢
  clear hr
  go_enter Try.func21, Try.ntmps21
  go_wp2_with fail
  refine hC.mono ?_
  clear hC
  rintro e w1 ⟨r, rfl, hr, hB⟩
  have hb2 : Below w.heap.size w w1 := hA.trans (hB.mono (by simp))
  clear hA hB
  rcases hr with ⟨r1, r2⟩ | ⟨r1, r2⟩
  · have h0 : 0 ≤ r := by have := r1.2.2.2; omega
    have HR : Hid (Right d k n s ts 8 300) := r1
    clear r1 r2
    go_wp2
    go_ret
    exact ⟨_, rfl, by simp [HR.out], hb2⟩
  · have HR : Hid (¬ Right d k n s ts 8 300) := r1
    subst r2
    clear r1
    go_wp2
    go_ret
    exact ⟨_, rfl, by simp [HR.out], hb2⟩

end Go.Proofs.Ythjmbbpakidkdaa

/- A region that draws its order, whose operations only read and whose callees leave what was there: one walk. -/
namespace Go.Proofs.Ythjmbbpakidkdaa
open Go.RowKit

/-- A world behind this one. -/
structure After (w : World) where
  now : World
  bel : Below w.heap.size w now

theorem After.some (w : World) : Nonempty (After w) := ⟨⟨w, Below.refl _ _⟩⟩

theorem wp_region_after {P : Program} {id : Nat} {Q : Exit → Act → World → Prop} {a : Act} {w : World} {l : List Oper} (hm : P.follows .mixedOrders = true) (hB : Region.lexB .any l.toArray = true)
    (h : wpQuiet P l.toArray (fun w' => ∃ n : After w, w' = n.now) (fun a' => ∀ w', (∃ n : After w, w' = n.now) → Q .normal a' w') l a) : (Code.region id l.toArray true).wp P Q a w :=
  wp_region_quiet (C := fun w' => ∃ n : After w, w' = n.now) hm hB ⟨⟨_, (Below.refl _ _).drew⟩, rfl⟩ (by simpa using h)

theorem calls_after {P : Program} {f : FuncId} {args : Array Value} {w : World} {n : After w} {v : Value}
    (h : Calls P f args n.now fun e w' => e = .returned v ∧ Below n.now.heap.size n.now w') : Calls P f args n.now fun e w'' => e = .returned v ∧ ∃ m : After w, w'' = m.now :=
  h.mono fun _ w' ⟨he, hb⟩ => ⟨he, ⟨w', n.bel.trans (hb.mono n.bel.size)⟩, rfl⟩

theorem After.cell {w : World} {a : Addr} {v : Value} (h : w.cell? a = .some v) (n : After w) : n.now.cell? a = .some v := cell_later n.bel h

end Go.Proofs.Ythjmbbpakidkdaa
