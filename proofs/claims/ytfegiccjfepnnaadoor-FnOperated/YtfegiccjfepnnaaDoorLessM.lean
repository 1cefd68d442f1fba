/- Which of two terms is less, and that the model's comparison tells it. -/
import Derived.Test.YtfegiccjfepnnaaDoorTmM
import Derived.Deep.DeepCutAuto
import Derived.Deep.CutRange
namespace Go.Proofs.YtfegiccjfepnnaaDoor
open Go.RowKit
set_option linter.unusedVariables false

/-- The order of lists by the first that are unlike, then by how many. -/
def ltList {α : Type} (lt : α → α → Prop) : List α → List α → Prop
  | [], [] => False
  | [], _ :: _ => True
  | _ :: _, [] => False
  | a :: xs, b :: zs => (a = b ∧ ltList lt xs zs) ∨ (a ≠ b ∧ lt a b)

def BLt (s s' : ByteArray) : Prop := Op.bytesLess s.toList s'.toList = true

/-- The order of terms. -/
def Lt : (d : Nat) → Tm d → Tm d → Prop
  | 0, _, _ => False
  | d + 1, a, b => (a.K ≠ b.K ∧ a.K < b.K) ∨ (a.K = b.K ∧ (((a.K = 1 ∨ a.K = 3) ∧ a.N < b.N) ∨ (a.K = 2 ∧ BLt a.S b.S) ∨ ((a.K = 4 ∧ a.L.length ≠ b.L.length) ∧ a.L.length < b.L.length) ∨
      ((¬ (a.K = 1 ∨ a.K = 3) ∧ ¬ a.K = 2 ∧ ¬ (a.K = 4 ∧ a.L.length ≠ b.L.length)) ∧ ltList (Lt d) a.L b.L)))

theorem ltList_drop {α : Type} {lt : α → α → Prop} : ∀ (j : Nat) (xs zs : List α), j ≤ xs.length → j ≤ zs.length → (∀ m, m < j → xs[m]? = zs[m]?) → (ltList lt xs zs ↔ ltList lt (xs.drop j) (zs.drop j)) := by
  intro j
  induction j with
  | zero => intro xs zs _ _ _; simp
  | succ j ih =>
    intro xs zs h1 h2 h
    cases xs with
    | nil => simp at h1
    | cons a xs =>
      cases zs with
      | nil => simp at h2
      | cons b zs =>
        have e : a = b := by have := h 0 (by omega); simpa using this
        subst e
        rw [List.drop_succ_cons, List.drop_succ_cons, ← ih xs zs (by simpa using h1) (by simpa using h2) fun m hm => by have := h (m + 1) (by omega); simpa using this]
        show (a = a ∧ _) ∨ (a ≠ a ∧ _) ↔ _
        simp

theorem ltList_at {α : Type} {lt : α → α → Prop} {xs zs : List α} {j : Nat} {a b : α} (h1 : xs[j]? = some a) (h2 : zs[j]? = some b) (h : ∀ m, m < j → xs[m]? = zs[m]?) (hne : a ≠ b) : ltList lt xs zs ↔ lt a b := by
  have l1 := (List.getElem?_eq_some_iff.1 h1).1
  have l2 := (List.getElem?_eq_some_iff.1 h2).1
  have e1 := (List.getElem?_eq_some_iff.1 h1).2
  have e2 := (List.getElem?_eq_some_iff.1 h2).2
  rw [ltList_drop j xs zs (by omega) (by omega) h, List.drop_eq_getElem_cons l1, List.drop_eq_getElem_cons l2, e1, e2]
  show (a = b ∧ _) ∨ (a ≠ b ∧ _) ↔ _
  simp [hne]

theorem ltList_end {α : Type} {lt : α → α → Prop} {xs zs : List α} {j : Nat} (h1 : j ≤ xs.length) (h2 : j ≤ zs.length) (he : j = xs.length ∨ j = zs.length) (h : ∀ m, m < j → xs[m]? = zs[m]?) : ltList lt xs zs ↔ xs.length < zs.length := by
  rw [ltList_drop j xs zs h1 h2 h]
  rcases he with rfl | rfl
  · rw [List.drop_length]
    cases hb : zs.drop xs.length with
    | nil =>
      have := List.drop_eq_nil_iff.1 hb
      exact ⟨fun h => absurd h (by show ¬ False; simp), fun h => by omega⟩
    | cons b r =>
      have : xs.length < zs.length := Nat.lt_of_not_le fun hn => by rw [List.drop_eq_nil_of_le hn] at hb; cases hb
      exact ⟨fun _ => this, fun _ => trivial⟩
  · rw [List.drop_length]
    cases ha : xs.drop zs.length with
    | nil => exact ⟨fun h => absurd h (by show ¬ False; simp), fun h => by omega⟩
    | cons a r => exact ⟨fun h => absurd h (by show ¬ False; simp), fun h => by omega⟩

/-- A term of its four fields. -/
def mk {d : Nat} (k n : Int) (s : ByteArray) (ts : List (Tm d)) : Tm (d + 1) := (k, n, s, ts)

theorem Tm.eta {d : Nat} (t : Tm (d + 1)) : mk t.K t.N t.S t.L = t := rfl

def LessC (f d : Nat) : Prop := ∀ (k n : Int) (s : ByteArray) (l : Value) (ts : List (Tm d)) (k' n' : Int) (s' : ByteArray) (l' : Value) (ts' : List (Tm d)) (w : World), RdL d w l ts → RdL d w l' ts' → WfL d ts → WfL d ts' →
  Calls Tryd.prog f #[.agg #[.int .i64 k, .int .i64 n, .string s, l], .agg #[.int .i64 k', .int .i64 n', .string s', l']] w fun e w' => ∃ b : Bool, e = .returned (.bool b) ∧ (b = true ↔ Lt (d + 1) (mk k n s ts) (mk k' n' s' ts')) ∧ Below w.heap.size w w'

theorem lt_k {d : Nat} {k n : Int} {s : ByteArray} {ts : List (Tm d)} {k' n' : Int} {s' : ByteArray} {ts' : List (Tm d)} (h : k ≠ k') : Lt (d + 1) (mk k n s ts) (mk k' n' s' ts') ↔ k < k' :=
  ⟨fun h1 => by rcases h1 with h1 | h1; exact h1.2; exact absurd h1.1 h, fun h1 => .inl ⟨h, h1⟩⟩
theorem lt_n {d : Nat} {k n : Int} {s : ByteArray} {ts : List (Tm d)} {n' : Int} {s' : ByteArray} {ts' : List (Tm d)} (h : k = 1 ∨ k = 3) : Lt (d + 1) (mk k n s ts) (mk k n' s' ts') ↔ n < n' := by
  constructor
  · intro h1
    rcases h1 with h1 | ⟨_, h1 | h1 | h1 | h1⟩
    · exact absurd rfl h1.1
    · exact h1.2
    · have : k = 2 := h1.1; omega
    · have : k = 4 := h1.1.1; omega
    · exact absurd h h1.1.1
  · exact fun h1 => .inr ⟨rfl, .inl ⟨h, h1⟩⟩
theorem lt_s {d : Nat} {k n : Int} {s : ByteArray} {ts : List (Tm d)} {n' : Int} {s' : ByteArray} {ts' : List (Tm d)} (h : k = 2) : Lt (d + 1) (mk k n s ts) (mk k n' s' ts') ↔ BLt s s' := by
  constructor
  · intro h1
    rcases h1 with h1 | ⟨_, h1 | h1 | h1 | h1⟩
    · exact absurd rfl h1.1
    · have h2 : k = 1 ∨ k = 3 := h1.1; omega
    · exact h1.2
    · have : k = 4 := h1.1.1; omega
    · exact absurd h h1.1.2.1
  · exact fun h1 => .inr ⟨rfl, .inr (.inl ⟨h, h1⟩)⟩
theorem lt_l {d : Nat} {k n : Int} {s : ByteArray} {ts : List (Tm d)} {n' : Int} {s' : ByteArray} {ts' : List (Tm d)} (h : k = 4 ∧ ts.length ≠ ts'.length) : Lt (d + 1) (mk k n s ts) (mk k n' s' ts') ↔ ts.length < ts'.length := by
  constructor
  · intro h1
    rcases h1 with h1 | ⟨_, h1 | h1 | h1 | h1⟩
    · exact absurd rfl h1.1
    · have h2 : k = 1 ∨ k = 3 := h1.1; omega
    · have : k = 2 := h1.1; omega
    · exact h1.2
    · exact absurd h h1.1.2.2
  · exact fun h1 => .inr ⟨rfl, .inr (.inr (.inl ⟨h, h1⟩))⟩
theorem lt_e {d : Nat} {k n : Int} {s : ByteArray} {ts : List (Tm d)} {n' : Int} {s' : ByteArray} {ts' : List (Tm d)} (h1 : ¬ (k = 1 ∨ k = 3)) (h2 : ¬ k = 2) (h3 : ¬ (k = 4 ∧ ts.length ≠ ts'.length)) : Lt (d + 1) (mk k n s ts) (mk k n' s' ts') ↔ ltList (Lt d) ts ts' := by
  constructor
  · intro h
    rcases h with h | ⟨_, h | h | h | h⟩
    · exact absurd rfl h.1
    · exact absurd h.1 h1
    · exact absurd h.1 h2
    · exact absurd h.1 h3
    · exact h.2
  · exact fun h => .inr ⟨rfl, .inr (.inr (.inr ⟨⟨h1, h2, h3⟩, h⟩))⟩

set_option maxHeartbeats 1000000 in
/-- What is told without a look at what is in the terms. -/
theorem specLess_top (d : Nat) (k n : Int) (s : ByteArray) (a : Option Addr) (c : Nat) (ts : List (Tm d)) (k' n' : Int) (s' : ByteArray) (a' : Option Addr) (c' : Nat) (ts' : List (Tm d)) (w : World) (hl : ts.length ≤ 9223372036854775807) (hl' : ts'.length ≤ 9223372036854775807)
    (h : k ≠ k' ∨ k = 1 ∨ k = 3 ∨ k = 2 ∨ (k = 4 ∧ ts.length ≠ ts'.length)) :
    Calls Tryd.prog 36 #[.agg #[.int .i64 k, .int .i64 n, .string s, .slice a ts.length c], .agg #[.int .i64 k', .int .i64 n', .string s', .slice a' ts'.length c']] w fun e w' => ∃ b : Bool, e = .returned (.bool b) ∧ (b = true ↔ Lt (d + 1) (mk k n s ts) (mk k' n' s' ts')) ∧ Below w.heap.size w w' := by
  have hA : Below w.heap.size w ((w.alloc (.cells #[.int .i64 k, .int .i64 n, .string s, .slice a ts.length c] 28)).alloc (.cells #[.int .i64 k', .int .i64 n', .string s', .slice a' ts'.length c'] 28)) := ((Below.refl _ _).alloc (Nat.le_refl _) _).alloc (by simp) _
  by_cases h0 : k = k'
  · subst h0
    have e0 : (k != k) = false := by simp
    by_cases h1 : k = 1 ∨ k = 3
    · rw [lt_n h1]
      by_cases h11 : k = 1
      · have e1 : (k == 1) = true := by simp [h11]
        clear h h1 h11
        go_enter Tryd.func36, Tryd.ntmps36
        go_wp2
        all_goals
          go_ret
          exact ⟨_, rfl, by simp, hA⟩
      · have e1 : (k == 1) = false := by simp [h11]
        have e3 : (k == 3) = true := by simp; omega
        clear h h1 h11
        go_enter Tryd.func36, Tryd.ntmps36
        go_wp2
        all_goals
          go_ret
          exact ⟨_, rfl, by simp, hA⟩
    · have e1 : (k == 1) = false := by simp; omega
      have e3 : (k == 3) = false := by simp; omega
      by_cases h2 : k = 2
      · rw [lt_s h2]
        have e2 : (k == 2) = true := by simp [h2]
        clear h h1 h2
        go_enter Tryd.func36, Tryd.ntmps36
        go_wp2
        go_ret
        exact ⟨_, rfl, Iff.rfl, hA⟩
      · have e2 : (k == 2) = false := by simp [h2]
        have h4 : k = 4 ∧ ts.length ≠ ts'.length := by
          rcases h with h | h | h | h | h
          · exact absurd rfl h
          · omega
          · omega
          · omega
          · exact h
        rw [lt_l h4]
        have e4 : (k == 4) = true := by simp [h4.1]
        have e5 : ((ts.length : Int) != (ts'.length : Int)) = true := by rw [bne_iff_ne]; have := h4.2; omega
        have HI : Hid (decide ((ts.length : Int) < (ts'.length : Int)) = true ↔ ts.length < ts'.length) := by show _ ↔ _; rw [decide_eq_true_iff]; omega
        clear h h1 h2 h4
        go_enter Tryd.func36, Tryd.ntmps36
        go_wp2
        all_goals
          go_ret
          exact ⟨_, rfl, by first | exact HI.out | simp, hA⟩
  · rw [lt_k h0]
    have e0 : (k != k') = true := by rw [bne_iff_ne]; exact h0
    clear h
    go_enter Tryd.func36, Tryd.ntmps36
    go_wp2
    all_goals
      go_ret
      exact ⟨_, rfl, by simp, hA⟩

set_option maxHeartbeats 2000000 in
theorem specLess_a (d : Nat) (ih : LessC 36 d) (k n : Int) (s : ByteArray) (l : Value) (ts : List (Tm (d + 1))) (n' : Int) (s' : ByteArray) (l' : Value) (ts' : List (Tm (d + 1))) (w : World) (hr : RdL (d + 1) w l ts) (hr' : RdL (d + 1) w l' ts') (hw : WfL (d + 1) ts) (hw' : WfL (d + 1) ts')
    (g1 : (k == 1) = false) (g3 : (k == 3) = false) (g2 : (k == 2) = false) (g4 : (k == 4) = true) (g5 : ((ts.length : Int) != (ts'.length : Int)) = false) :
    Calls Tryd.prog 36 #[.agg #[.int .i64 k, .int .i64 n, .string s, l], .agg #[.int .i64 k, .int .i64 n', .string s', l']] w fun e w' => ∃ b : Bool, e = .returned (.bool b) ∧ (b = true ↔ ltList (Lt (d + 1)) ts ts') ∧ Below w.heap.size w w' := by
  obtain ⟨a, c, rfl, hel⟩ := hr
  obtain ⟨a', c', rfl, hel'⟩ := hr'
  have HE : Hid (∀ (i : Nat) (t : Tm (d + 1)), ts[i]? = some t → ∃ b o lv, a = some ⟨b, o, none⟩ ∧ Four w b (o + i * 4) t.K t.N t.S lv ∧ RdL d w lv t.L) := hel
  have HE' : Hid (∀ (i : Nat) (t : Tm (d + 1)), ts'[i]? = some t → ∃ b o lv, a' = some ⟨b, o, none⟩ ∧ Four w b (o + i * 4) t.K t.N t.S lv ∧ RdL d w lv t.L) := hel'
  have HW : Hid (WfL (d + 1) ts) := hw
  have HW' : Hid (WfL (d + 1) ts') := hw'
  have hm : ts.length ≤ 9223372036854775807 := hw.1
  have hm' : ts'.length ≤ 9223372036854775807 := hw'.1
  obtain ⟨len, hl⟩ : ∃ len, ts.length = len := ⟨_, rfl⟩
  obtain ⟨len', hl'⟩ : ∃ len, ts'.length = len := ⟨_, rfl⟩
  have HL : Hid (ts.length = len) := hl
  have HL' : Hid (ts'.length = len') := hl'
  rw [hl] at hm ⊢
  rw [hl'] at hm' ⊢
  rw [hl, hl'] at g5
  obtain ⟨W, hW⟩ : ∃ W, W = (w.alloc (.cells #[.int .i64 k, .int .i64 n, .string s, .slice a len c] 28)).alloc (.cells #[.int .i64 k, .int .i64 n', .string s', .slice a' len' c'] 28) := ⟨_, rfl⟩
  have hA : Below w.heap.size w W := by rw [hW]; exact ((Below.refl _ _).alloc (Nat.le_refl _) _).alloc (by simp) _
  have hWz : W.heap.size = w.heap.size + 2 := by rw [hW]; simp
  have hB1 : W.heap[w.heap.size]? = some (.cells #[.int .i64 k, .int .i64 n, .string s, .slice a len c] 28 (0, 0)) := by rw [hW]; exact (heap_two w _ _).1
  have hB2 : W.heap[w.heap.size + 1]? = some (.cells #[.int .i64 k, .int .i64 n', .string s', .slice a' len' c'] 28 (0, 0)) := by rw [hW]; exact (heap_two w _ _).2
  have HSM : Hid (Sm 35 d) := specSame_any d
  have HLS : Hid (LessC 36 d) := ih
  have HB1 : Hid (W.heap[w.heap.size]? = _) := hB1
  have HB2 : Hid (W.heap[w.heap.size + 1]? = _) := hB2
  clear ih hel hel' hw hw' hl hl' hB1 hB2
  go_enter Tryd.func36, Tryd.ntmps36
  go_wp2_with fail
  rw [← hW]
  clear hW
  go_loopw [5] (fun i wr => ∃ j : Nat, j ≤ len ∧ j ≤ len' ∧ i = .int .i64 j ∧ Below W.heap.size W wr ∧ Hid (∀ m, m < j → ts[m]? = ts'[m]?)) (fun i _ => len - (intOf i).toNat)
  case atStart => exact ⟨0, Nat.zero_le _, Nat.zero_le _, rfl, Below.refl _ _, fun m hm => by omega⟩
  case round =>
    obtain ⟨j, hj, hj', rfl, hb, HS⟩ := hrel
    have c1 : wr.cell? ⟨w.heap.size, 3, none⟩ = some (.slice a len c) := by rw [cell_of_row wr _ 3 _ _ _ ((hb.block _ (by omega)).trans HB1.out)]; rfl
    have c2 : wr.cell? ⟨w.heap.size + 1, 3, none⟩ = some (.slice a' len' c') := by rw [cell_of_row wr _ 3 _ _ _ ((hb.block _ (by omega)).trans HB2.out)]; rfl
    have hbw : Below w.heap.size w wr := hA.trans (hb.mono (by omega))
    by_cases hjl : j < len ∧ j < len'
    · obtain ⟨hjl1, hjl2⟩ := hjl
      obtain ⟨t, ht⟩ : ∃ t, ts[j]? = some t := ⟨_, List.getElem?_eq_getElem (by rw [HL.out]; exact hjl1)⟩
      obtain ⟨t', ht'⟩ : ∃ t, ts'[j]? = some t := ⟨_, List.getElem?_eq_getElem (by rw [HL'.out]; exact hjl2)⟩
      obtain ⟨b1, o1, lv1, rfl, F1, L1⟩ := HE.out j t ht
      obtain ⟨b2, o2, lv2, rfl, F2, L2⟩ := HE'.out j t' ht'
      obtain ⟨_, _, _, hwt⟩ := HW.out.2 t (List.mem_of_getElem? ht)
      obtain ⟨_, _, _, hwt'⟩ := HW'.out.2 t' (List.mem_of_getElem? ht')
      have F1' := F1.later hbw
      have F2' := F2.later hbw
      have L1' := L1.later hbw
      have L2' := L2.later hbw
      obtain ⟨x1, y1, z1, hs1⟩ := L1'.shape
      obtain ⟨x2, y2, z2, hs2⟩ := L2'.shape
      rw [hs1] at F1' L1'
      rw [hs2] at F2' L2'
      have HF1 : Hid (Four wr b1 (o1 + j * 4) t.K t.N t.S (.slice x1 y1 z1)) := F1'
      have HF2 : Hid (Four wr b2 (o2 + j * 4) t'.K t'.N t'.S (.slice x2 y2 z2)) := F2'
      obtain ⟨f0, f1, f2, f3⟩ := F1'
      obtain ⟨p0, p1, p2, p3⟩ := F2'
      have hi1 : (j : Int) < (len : Int) := by omega
      have hi2 : (j : Int) < (len' : Int) := by omega
      have HC : Hid (∀ V : World, Below wr.heap.size wr V → Calls Tryd.prog 35 #[.agg #[.int .i64 t.K, .int .i64 t.N, .string t.S, .slice x1 y1 z1], .agg #[.int .i64 t'.K, .int .i64 t'.N, .string t'.S, .slice x2 y2 z2]] V fun e w' => ∃ b : Bool, e = .returned (.bool b) ∧ (b = true ↔ t.K = t'.K ∧ t.N = t'.N ∧ t.S = t'.S ∧ t.L = t'.L) ∧ Below V.heap.size V w') :=
        fun V hV => HSM.out t.K t.N t.S _ t.L t'.K t'.N t'.S _ t'.L V (L1'.later hV) (L2'.later hV) hwt hwt'
      have HD : Hid (∀ V : World, Below wr.heap.size wr V → Calls Tryd.prog 36 #[.agg #[.int .i64 t.K, .int .i64 t.N, .string t.S, .slice x1 y1 z1], .agg #[.int .i64 t'.K, .int .i64 t'.N, .string t'.S, .slice x2 y2 z2]] V fun e w' => ∃ b : Bool, e = .returned (.bool b) ∧ (b = true ↔ Lt (d + 1) t t') ∧ Below V.heap.size V w') :=
        fun V hV => HLS.out t.K t.N t.S _ t.L t'.K t'.N t'.S _ t'.L V (L1'.later hV) (L2'.later hV) hwt hwt'
      have HT : Hid (ts[j]? = some t ∧ ts'[j]? = some t') := ⟨ht, ht'⟩
      clear F1 F2 L1 L2 L1' L2' hs1 hs2 ht ht' hwt hwt' hbw HE HE' HW HW' HSM HLS
      go_upto_region 12 with fail
      go_cut [85] (fun v wx => ∃ b : Bool, v = .bool (!b) ∧ Hid (b = true ↔ t.K = t'.K ∧ t.N = t'.N ∧ t.S = t'.S ∧ t.L = t'.L) ∧ Below wr.heap.size wr wx)
      case first =>
        go_region_with (go_at_call 35; refine (HC.out _ ?_).mono ?_; exact (Below.refl _ _).drew; rintro e V ⟨b, rfl, hbi, hB⟩)
        all_goals
          go_wp2_with fail
          go_meet
          case rel => exact ⟨b, rfl, hbi, (Below.refl _ _).drew.trans hB⟩
      case rest =>
        obtain ⟨b, rfl, HBI, hbr⟩ := hcut
        have HB3 : Hid (Below W.heap.size W wc) := hb.trans (hbr.mono hb.size)
        have HBR : Hid (Below wr.heap.size wr wc) := hbr
        clear f0 f1 f2 f3 p0 p1 p2 p3 hb
        cases b
        · have q1 := cell_later hbr c1
          have q2 := cell_later hbr c2
          obtain ⟨r0, r1, r2, r3⟩ := HF1.out.later hbr
          obtain ⟨v0, v1, v2, v3⟩ := HF2.out.later hbr
          have HNE : Hid (t ≠ t') := fun e => by
            have := HBI.out.2 (by rw [e]; exact ⟨rfl, rfl, rfl, rfl⟩)
            cases this
          have HLT : Hid (ltList (Lt (d + 1)) ts ts' ↔ Lt (d + 1) t t') := ltList_at HT.out.1 HT.out.2 HS.out HNE.out
          clear c1 c2 hbr
          go_wp2_with fail
          go_region_with (go_at_call 36; refine (HD.out _ ?_).mono ?_; exact HBR.out.drew; rintro e V2 ⟨b2, rfl, hbi2, hB3⟩)
          all_goals
            have hbf : Below w.heap.size w V2 := hA.trans ((HB3.out.drew.trans (hB3.mono HB3.out.drew.size)).mono (by omega))
            have HI2 : Hid (b2 = true ↔ ltList (Lt (d + 1)) ts ts') := hbi2.trans HLT.out.symm
            clear hB3 hbi2 q1 q2 r0 r1 r2 r3 v0 v1 v2 v3
            go_wp2_with fail
            go_ret
            exact ⟨b2, rfl, HI2.out, hbf⟩
        · have HS2 : Hid (∀ m, m < j + 1 → ts[m]? = ts'[m]?) := fun m hm => by
            by_cases hmj : m < j
            · exact HS.out m hmj
            · obtain rfl : m = j := by omega
              rw [HT.out.1, HT.out.2]
              obtain ⟨e1, e2, e3, e4⟩ := HBI.out.1 rfl
              rw [tm_ext e1 e2 e3 e4]
          clear c1 c2 hbr
          go_wp2
          go_roundw
          case rel => exact ⟨j + 1, by omega, by omega, by go_num, HB3.out, HS2⟩
          case measure => simp [intOf]; omega
    · have HF : Hid (ltList (Lt (d + 1)) ts ts' ↔ len < len') := by
        show _ ↔ _
        rw [ltList_end (j := j) (by rw [HL.out]; exact hj) (by rw [HL'.out]; exact hj') (by rw [HL.out, HL'.out]; omega) HS.out, HL.out, HL'.out]
      clear hb HE HE' HW HW' HSM HLS
      by_cases hj1 : j < len
      · have hj2 : ¬ j < len' := fun e => hjl ⟨hj1, e⟩
        have hi1 : (j : Int) < (len : Int) := by omega
        have hi2 : ¬ (j : Int) < (len' : Int) := by omega
        have hi3 : decide (len < len') = false := by simp; omega
        have HN : Hid (¬ ltList (Lt (d + 1)) ts ts') := fun e => by have := HF.out.1 e; omega
        clear hjl
        go_wp2_with fail
        go_ret
        first | exact ⟨false, rfl, iff_no HN.out, hbw⟩ | exact .inl ⟨rfl, HN.out, hbw⟩ | exact .inl ⟨congrArg (fun b => Ending.returned (.bool b)) hi3, HN.out, hbw⟩
      · have hi1 : ¬ (j : Int) < (len : Int) := by omega
        clear hjl
        by_cases hll : len < len'
        · have hi3 : decide (len < len') = true := by simp; omega
          have HN : Hid (ltList (Lt (d + 1)) ts ts') := HF.out.2 hll
          go_wp2_with fail
          go_ret
          first | exact ⟨true, rfl, iff_yes HN.out, hbw⟩ | exact .inr ⟨rfl, HN.out, hbw⟩ | exact .inr ⟨congrArg (fun b => Ending.returned (.bool b)) hi3, HN.out, hbw⟩
        · have hi3 : decide (len < len') = false := by simp; omega
          have HN : Hid (¬ ltList (Lt (d + 1)) ts ts') := fun e => hll (HF.out.1 e)
          go_wp2_with fail
          go_ret
          first | exact ⟨false, rfl, iff_no HN.out, hbw⟩ | exact .inl ⟨rfl, HN.out, hbw⟩ | exact .inl ⟨congrArg (fun b => Ending.returned (.bool b)) hi3, HN.out, hbw⟩

set_option maxHeartbeats 2000000 in
theorem specLess_b (d : Nat) (ih : LessC 36 d) (k n : Int) (s : ByteArray) (l : Value) (ts : List (Tm (d + 1))) (n' : Int) (s' : ByteArray) (l' : Value) (ts' : List (Tm (d + 1))) (w : World) (hr : RdL (d + 1) w l ts) (hr' : RdL (d + 1) w l' ts') (hw : WfL (d + 1) ts) (hw' : WfL (d + 1) ts')
    (g1 : (k == 1) = false) (g3 : (k == 3) = false) (g2 : (k == 2) = false) (g4 : (k == 4) = false) :
    Calls Tryd.prog 36 #[.agg #[.int .i64 k, .int .i64 n, .string s, l], .agg #[.int .i64 k, .int .i64 n', .string s', l']] w fun e w' => ∃ b : Bool, e = .returned (.bool b) ∧ (b = true ↔ ltList (Lt (d + 1)) ts ts') ∧ Below w.heap.size w w' := by
  obtain ⟨a, c, rfl, hel⟩ := hr
  obtain ⟨a', c', rfl, hel'⟩ := hr'
  have HE : Hid (∀ (i : Nat) (t : Tm (d + 1)), ts[i]? = some t → ∃ b o lv, a = some ⟨b, o, none⟩ ∧ Four w b (o + i * 4) t.K t.N t.S lv ∧ RdL d w lv t.L) := hel
  have HE' : Hid (∀ (i : Nat) (t : Tm (d + 1)), ts'[i]? = some t → ∃ b o lv, a' = some ⟨b, o, none⟩ ∧ Four w b (o + i * 4) t.K t.N t.S lv ∧ RdL d w lv t.L) := hel'
  have HW : Hid (WfL (d + 1) ts) := hw
  have HW' : Hid (WfL (d + 1) ts') := hw'
  have hm : ts.length ≤ 9223372036854775807 := hw.1
  have hm' : ts'.length ≤ 9223372036854775807 := hw'.1
  obtain ⟨len, hl⟩ : ∃ len, ts.length = len := ⟨_, rfl⟩
  obtain ⟨len', hl'⟩ : ∃ len, ts'.length = len := ⟨_, rfl⟩
  have HL : Hid (ts.length = len) := hl
  have HL' : Hid (ts'.length = len') := hl'
  rw [hl] at hm ⊢
  rw [hl'] at hm' ⊢

  obtain ⟨W, hW⟩ : ∃ W, W = (w.alloc (.cells #[.int .i64 k, .int .i64 n, .string s, .slice a len c] 28)).alloc (.cells #[.int .i64 k, .int .i64 n', .string s', .slice a' len' c'] 28) := ⟨_, rfl⟩
  have hA : Below w.heap.size w W := by rw [hW]; exact ((Below.refl _ _).alloc (Nat.le_refl _) _).alloc (by simp) _
  have hWz : W.heap.size = w.heap.size + 2 := by rw [hW]; simp
  have hB1 : W.heap[w.heap.size]? = some (.cells #[.int .i64 k, .int .i64 n, .string s, .slice a len c] 28 (0, 0)) := by rw [hW]; exact (heap_two w _ _).1
  have hB2 : W.heap[w.heap.size + 1]? = some (.cells #[.int .i64 k, .int .i64 n', .string s', .slice a' len' c'] 28 (0, 0)) := by rw [hW]; exact (heap_two w _ _).2
  have HSM : Hid (Sm 35 d) := specSame_any d
  have HLS : Hid (LessC 36 d) := ih
  have HB1 : Hid (W.heap[w.heap.size]? = _) := hB1
  have HB2 : Hid (W.heap[w.heap.size + 1]? = _) := hB2
  clear ih hel hel' hw hw' hl hl' hB1 hB2
  go_enter Tryd.func36, Tryd.ntmps36
  go_wp2_with fail
  rw [← hW]
  clear hW
  go_loopw [5] (fun i wr => ∃ j : Nat, j ≤ len ∧ j ≤ len' ∧ i = .int .i64 j ∧ Below W.heap.size W wr ∧ Hid (∀ m, m < j → ts[m]? = ts'[m]?)) (fun i _ => len - (intOf i).toNat)
  case atStart => exact ⟨0, Nat.zero_le _, Nat.zero_le _, rfl, Below.refl _ _, fun m hm => by omega⟩
  case round =>
    obtain ⟨j, hj, hj', rfl, hb, HS⟩ := hrel
    have c1 : wr.cell? ⟨w.heap.size, 3, none⟩ = some (.slice a len c) := by rw [cell_of_row wr _ 3 _ _ _ ((hb.block _ (by omega)).trans HB1.out)]; rfl
    have c2 : wr.cell? ⟨w.heap.size + 1, 3, none⟩ = some (.slice a' len' c') := by rw [cell_of_row wr _ 3 _ _ _ ((hb.block _ (by omega)).trans HB2.out)]; rfl
    have hbw : Below w.heap.size w wr := hA.trans (hb.mono (by omega))
    by_cases hjl : j < len ∧ j < len'
    · obtain ⟨hjl1, hjl2⟩ := hjl
      obtain ⟨t, ht⟩ : ∃ t, ts[j]? = some t := ⟨_, List.getElem?_eq_getElem (by rw [HL.out]; exact hjl1)⟩
      obtain ⟨t', ht'⟩ : ∃ t, ts'[j]? = some t := ⟨_, List.getElem?_eq_getElem (by rw [HL'.out]; exact hjl2)⟩
      obtain ⟨b1, o1, lv1, rfl, F1, L1⟩ := HE.out j t ht
      obtain ⟨b2, o2, lv2, rfl, F2, L2⟩ := HE'.out j t' ht'
      obtain ⟨_, _, _, hwt⟩ := HW.out.2 t (List.mem_of_getElem? ht)
      obtain ⟨_, _, _, hwt'⟩ := HW'.out.2 t' (List.mem_of_getElem? ht')
      have F1' := F1.later hbw
      have F2' := F2.later hbw
      have L1' := L1.later hbw
      have L2' := L2.later hbw
      obtain ⟨x1, y1, z1, hs1⟩ := L1'.shape
      obtain ⟨x2, y2, z2, hs2⟩ := L2'.shape
      rw [hs1] at F1' L1'
      rw [hs2] at F2' L2'
      have HF1 : Hid (Four wr b1 (o1 + j * 4) t.K t.N t.S (.slice x1 y1 z1)) := F1'
      have HF2 : Hid (Four wr b2 (o2 + j * 4) t'.K t'.N t'.S (.slice x2 y2 z2)) := F2'
      obtain ⟨f0, f1, f2, f3⟩ := F1'
      obtain ⟨p0, p1, p2, p3⟩ := F2'
      have hi1 : (j : Int) < (len : Int) := by omega
      have hi2 : (j : Int) < (len' : Int) := by omega
      have HC : Hid (∀ V : World, Below wr.heap.size wr V → Calls Tryd.prog 35 #[.agg #[.int .i64 t.K, .int .i64 t.N, .string t.S, .slice x1 y1 z1], .agg #[.int .i64 t'.K, .int .i64 t'.N, .string t'.S, .slice x2 y2 z2]] V fun e w' => ∃ b : Bool, e = .returned (.bool b) ∧ (b = true ↔ t.K = t'.K ∧ t.N = t'.N ∧ t.S = t'.S ∧ t.L = t'.L) ∧ Below V.heap.size V w') :=
        fun V hV => HSM.out t.K t.N t.S _ t.L t'.K t'.N t'.S _ t'.L V (L1'.later hV) (L2'.later hV) hwt hwt'
      have HD : Hid (∀ V : World, Below wr.heap.size wr V → Calls Tryd.prog 36 #[.agg #[.int .i64 t.K, .int .i64 t.N, .string t.S, .slice x1 y1 z1], .agg #[.int .i64 t'.K, .int .i64 t'.N, .string t'.S, .slice x2 y2 z2]] V fun e w' => ∃ b : Bool, e = .returned (.bool b) ∧ (b = true ↔ Lt (d + 1) t t') ∧ Below V.heap.size V w') :=
        fun V hV => HLS.out t.K t.N t.S _ t.L t'.K t'.N t'.S _ t'.L V (L1'.later hV) (L2'.later hV) hwt hwt'
      have HT : Hid (ts[j]? = some t ∧ ts'[j]? = some t') := ⟨ht, ht'⟩
      clear F1 F2 L1 L2 L1' L2' hs1 hs2 ht ht' hwt hwt' hbw HE HE' HW HW' HSM HLS
      go_upto_region 12 with fail
      go_cut [85] (fun v wx => ∃ b : Bool, v = .bool (!b) ∧ Hid (b = true ↔ t.K = t'.K ∧ t.N = t'.N ∧ t.S = t'.S ∧ t.L = t'.L) ∧ Below wr.heap.size wr wx)
      case first =>
        go_region_with (go_at_call 35; refine (HC.out _ ?_).mono ?_; exact (Below.refl _ _).drew; rintro e V ⟨b, rfl, hbi, hB⟩)
        all_goals
          go_wp2_with fail
          go_meet
          case rel => exact ⟨b, rfl, hbi, (Below.refl _ _).drew.trans hB⟩
      case rest =>
        obtain ⟨b, rfl, HBI, hbr⟩ := hcut
        have HB3 : Hid (Below W.heap.size W wc) := hb.trans (hbr.mono hb.size)
        have HBR : Hid (Below wr.heap.size wr wc) := hbr
        clear f0 f1 f2 f3 p0 p1 p2 p3 hb
        cases b
        · have q1 := cell_later hbr c1
          have q2 := cell_later hbr c2
          obtain ⟨r0, r1, r2, r3⟩ := HF1.out.later hbr
          obtain ⟨v0, v1, v2, v3⟩ := HF2.out.later hbr
          have HNE : Hid (t ≠ t') := fun e => by
            have := HBI.out.2 (by rw [e]; exact ⟨rfl, rfl, rfl, rfl⟩)
            cases this
          have HLT : Hid (ltList (Lt (d + 1)) ts ts' ↔ Lt (d + 1) t t') := ltList_at HT.out.1 HT.out.2 HS.out HNE.out
          clear c1 c2 hbr
          go_wp2_with fail
          go_region_with (go_at_call 36; refine (HD.out _ ?_).mono ?_; exact HBR.out.drew; rintro e V2 ⟨b2, rfl, hbi2, hB3⟩)
          all_goals
            have hbf : Below w.heap.size w V2 := hA.trans ((HB3.out.drew.trans (hB3.mono HB3.out.drew.size)).mono (by omega))
            have HI2 : Hid (b2 = true ↔ ltList (Lt (d + 1)) ts ts') := hbi2.trans HLT.out.symm
            clear hB3 hbi2 q1 q2 r0 r1 r2 r3 v0 v1 v2 v3
            go_wp2_with fail
            go_ret
            exact ⟨b2, rfl, HI2.out, hbf⟩
        · have HS2 : Hid (∀ m, m < j + 1 → ts[m]? = ts'[m]?) := fun m hm => by
            by_cases hmj : m < j
            · exact HS.out m hmj
            · obtain rfl : m = j := by omega
              rw [HT.out.1, HT.out.2]
              obtain ⟨e1, e2, e3, e4⟩ := HBI.out.1 rfl
              rw [tm_ext e1 e2 e3 e4]
          clear c1 c2 hbr
          go_wp2
          go_roundw
          case rel => exact ⟨j + 1, by omega, by omega, by go_num, HB3.out, HS2⟩
          case measure => simp [intOf]; omega
    · have HF : Hid (ltList (Lt (d + 1)) ts ts' ↔ len < len') := by
        show _ ↔ _
        rw [ltList_end (j := j) (by rw [HL.out]; exact hj) (by rw [HL'.out]; exact hj') (by rw [HL.out, HL'.out]; omega) HS.out, HL.out, HL'.out]
      clear hb HE HE' HW HW' HSM HLS
      by_cases hj1 : j < len
      · have hj2 : ¬ j < len' := fun e => hjl ⟨hj1, e⟩
        have hi1 : (j : Int) < (len : Int) := by omega
        have hi2 : ¬ (j : Int) < (len' : Int) := by omega
        have hi3 : decide (len < len') = false := by simp; omega
        have HN : Hid (¬ ltList (Lt (d + 1)) ts ts') := fun e => by have := HF.out.1 e; omega
        clear hjl
        go_wp2_with fail
        go_ret
        first | exact ⟨false, rfl, iff_no HN.out, hbw⟩ | exact .inl ⟨rfl, HN.out, hbw⟩ | exact .inl ⟨congrArg (fun b => Ending.returned (.bool b)) hi3, HN.out, hbw⟩
      · have hi1 : ¬ (j : Int) < (len : Int) := by omega
        clear hjl
        by_cases hll : len < len'
        · have hi3 : decide (len < len') = true := by simp; omega
          have HN : Hid (ltList (Lt (d + 1)) ts ts') := HF.out.2 hll
          go_wp2_with fail
          go_ret
          first | exact ⟨true, rfl, iff_yes HN.out, hbw⟩ | exact .inr ⟨rfl, HN.out, hbw⟩ | exact .inr ⟨congrArg (fun b => Ending.returned (.bool b)) hi3, HN.out, hbw⟩
        · have hi3 : decide (len < len') = false := by simp; omega
          have HN : Hid (¬ ltList (Lt (d + 1)) ts ts') := fun e => hll (HF.out.1 e)
          go_wp2_with fail
          go_ret
          first | exact ⟨false, rfl, iff_no HN.out, hbw⟩ | exact .inl ⟨rfl, HN.out, hbw⟩ | exact .inl ⟨congrArg (fun b => Ending.returned (.bool b)) hi3, HN.out, hbw⟩

set_option maxHeartbeats 1000000 in
theorem specLess_any : ∀ d, LessC 36 d := by
  intro d
  induction d with
  | zero =>
    intro k n s l ts k' n' s' l' ts' w hr hr' hw hw'
    obtain ⟨a, c, e1⟩ := hr.len
    obtain ⟨a', c', e2⟩ := hr'.len
    rw [e1, e2]
    by_cases h : k ≠ k' ∨ k = 1 ∨ k = 3 ∨ k = 2 ∨ (k = 4 ∧ ts.length ≠ ts'.length)
    · exact specLess_top 0 k n s a c ts k' n' s' a' c' ts' w hw.len hw'.len h
    · have hk : k = k' := Classical.byContradiction fun e => h (.inl e)
      subst hk
      have hz : ts.length = 0 := by
        cases ts with
        | nil => rfl
        | cons t _ => exact Empty.elim t
      have hz' : ts'.length = 0 := by
        cases ts' with
        | nil => rfl
        | cons t _ => exact Empty.elim t
      have HF : Hid (¬ Lt 1 (mk k n s ts) (mk k n' s' ts')) := by
        show ¬ _
        rw [lt_e (fun e => h (by rcases e with e | e; exact .inr (.inl e); exact .inr (.inr (.inl e)))) (fun e => h (.inr (.inr (.inr (.inl e))))) (fun e => h (.inr (.inr (.inr (.inr e)))))]
        cases ts with
        | nil => cases ts' with
          | nil => exact fun h => h
          | cons t _ => exact Empty.elim t
        | cons t _ => exact Empty.elim t
      have g1 : (k == 1) = false := by simp; exact fun e => h (.inr (.inl e))
      have g3 : (k == 3) = false := by simp; exact fun e => h (.inr (.inr (.inl e)))
      have g2 : (k == 2) = false := by simp; exact fun e => h (.inr (.inr (.inr (.inl e))))
      rw [hz, hz']
      have hA : Below w.heap.size w ((w.alloc (.cells #[.int .i64 k, .int .i64 n, .string s, .slice a 0 c] 28)).alloc (.cells #[.int .i64 k, .int .i64 n', .string s', .slice a' 0 c'] 28)) := ((Below.refl _ _).alloc (Nat.le_refl _) _).alloc (by simp) _
      clear h e1 e2 hr hr' hw hw'
      by_cases h4 : k = 4
      · have g4 : (k == 4) = true := by simp [h4]
        clear h4
        go_enter Tryd.func36, Tryd.ntmps36
        go_wp2
        refine wp_loop_rounds 1 ?_
        rw [rounds_succ]
        go_wp2
        go_ret
        exact ⟨false, rfl, iff_no HF.out, hA⟩
      · have g4 : (k == 4) = false := by simp [h4]
        clear h4
        go_enter Tryd.func36, Tryd.ntmps36
        go_wp2
        refine wp_loop_rounds 1 ?_
        rw [rounds_succ]
        go_wp2
        go_ret
        exact ⟨false, rfl, iff_no HF.out, hA⟩
  | succ d ih =>
    intro k n s l ts k' n' s' l' ts' w hr hr' hw hw'
    by_cases h : k ≠ k' ∨ k = 1 ∨ k = 3 ∨ k = 2 ∨ (k = 4 ∧ ts.length ≠ ts'.length)
    · obtain ⟨a, c, e1⟩ := hr.len
      obtain ⟨a', c', e2⟩ := hr'.len
      rw [e1, e2]
      exact specLess_top (d + 1) k n s a c ts k' n' s' a' c' ts' w hw.len hw'.len h
    · have hk : k = k' := Classical.byContradiction fun e => h (.inl e)
      subst hk
      rw [lt_e (fun e => h (by rcases e with e | e; exact .inr (.inl e); exact .inr (.inr (.inl e)))) (fun e => h (.inr (.inr (.inr (.inl e))))) (fun e => h (.inr (.inr (.inr (.inr e)))))]
      have g1 : (k == 1) = false := by simp; exact fun e => h (.inr (.inl e))
      have g3 : (k == 3) = false := by simp; exact fun e => h (.inr (.inr (.inl e)))
      have g2 : (k == 2) = false := by simp; exact fun e => h (.inr (.inr (.inr (.inl e))))
      have H4 : Hid (k = 4 → ts.length = ts'.length) := fun e => Classical.byContradiction fun e2 => h (.inr (.inr (.inr (.inr ⟨e, e2⟩))))
      by_cases h4 : k = 4
      · exact specLess_a d ih k n s l ts n' s' l' ts' w hr hr' hw hw' g1 g3 g2 (by simp [h4]) (by have := H4.out h4; simp [this])
      · exact specLess_b d ih k n s l ts n' s' l' ts' w hr hr' hw hw' g1 g3 g2 (by simp [h4])

end Go.Proofs.YtfegiccjfepnnaaDoor
