/- What the model's comparison of two terms comes to: whether they are one. -/
import Derived.Test.YthjmbbpakidkdaaEqT
namespace Go.Proofs.Ythjmbbpakidkdaa
open Go.RowKit
set_option linter.unusedVariables false

/-- The contract of the comparison, at terms of d storeys below. -/
def Sm (f d : Nat) : Prop := ∀ (k n : Int) (s : ByteArray) (l : Value) (ts : List (Tm d)) (k' n' : Int) (s' : ByteArray) (l' : Value) (ts' : List (Tm d)) (w : World), RdL d w l ts → RdL d w l' ts' → WfL d ts → WfL d ts' →
  Calls Try.prog f #[.agg #[.int .i64 k, .int .i64 n, .string s, l], .agg #[.int .i64 k', .int .i64 n', .string s', l']] w fun e w' => ∃ b : Bool, e = .returned (.bool b) ∧ (b = true ↔ k = k' ∧ n = n' ∧ s = s' ∧ ts = ts') ∧ Below w.heap.size w w'

theorem toList_inj {x y : ByteArray} (h : x.toList = y.toList) : x = y := by
  rw [ByteArray.toList_eq, ByteArray.toList_eq] at h
  exact ByteArray.ext (Array.toList_inj.mp h)

set_option maxHeartbeats 1000000 in
theorem specSame_no (d : Nat) (k n : Int) (s : ByteArray) (a : Option Addr) (len c : Nat) (ts : List (Tm d)) (k' n' : Int) (s' : ByteArray) (a' : Option Addr) (len' c' : Nat) (ts' : List (Tm d)) (w : World)
    (hl : len ≤ 9223372036854775807) (hl' : len' ≤ 9223372036854775807) (h : k ≠ k' ∨ n ≠ n' ∨ s ≠ s' ∨ len ≠ len') :
    Calls Try.prog 81 #[.agg #[.int .i64 k, .int .i64 n, .string s, .slice a len c], .agg #[.int .i64 k', .int .i64 n', .string s', .slice a' len' c']] w fun e w' => e = .returned (.bool false) ∧ Below w.heap.size w w' := by
  have hA : Below w.heap.size w ((w.alloc (.cells #[.int .i64 k, .int .i64 n, .string s, .slice a len c] 26)).alloc (.cells #[.int .i64 k', .int .i64 n', .string s', .slice a' len' c'] 26)) := ((Below.refl _ _).alloc (Nat.le_refl _) _).alloc (by simp) _
  by_cases h1 : k = k'
  · subst h1
    by_cases h2 : n = n'
    · subst h2
      by_cases h3 : s = s'
      · subst h3
        have hb : ((len : Int) != (len' : Int)) = true := by rw [bne_iff_ne]; simp at h; omega
        go_enter Try.func81, Try.ntmps81
        go_wp2
        go_ret
        exact ⟨rfl, hA⟩
      · have hb : ¬ s.toList = s'.toList := fun e => h3 (toList_inj e)
        go_enter Try.func81, Try.ntmps81
        go_wp2
        go_ret
        exact ⟨rfl, hA⟩
    · have hb : (n != n') = true := by rw [bne_iff_ne]; exact h2
      go_enter Try.func81, Try.ntmps81
      go_wp2
      go_ret
      exact ⟨rfl, hA⟩
  · have hb : (k != k') = true := by rw [bne_iff_ne]; exact h1
    go_enter Try.func81, Try.ntmps81
    go_wp2
    go_ret
    exact ⟨rfl, hA⟩

theorem RdL.len {d : Nat} {w : World} {v : Value} {ts : List (Tm d)} (h : RdL d w v ts) : ∃ a c, v = .slice a ts.length c := by
  cases d with
  | zero =>
    obtain ⟨a, c, h⟩ := h
    have : ts = [] := by
      cases ts with
      | nil => rfl
      | cons t _ => exact Empty.elim t
    exact ⟨a, c, by rw [h, this]; rfl⟩
  | succ d => obtain ⟨a, c, h, _⟩ := h; exact ⟨a, c, h⟩

theorem WfL.len {d : Nat} {ts : List (Tm d)} (h : WfL d ts) : ts.length ≤ 9223372036854775807 := by
  cases d with
  | zero =>
    cases ts with
    | nil => simp
    | cons t _ => exact Empty.elim t
  | succ d => exact h.1

theorem tm_ext {d : Nat} {t t' : Tm (d + 1)} (h1 : t.K = t'.K) (h2 : t.N = t'.N) (h3 : t.S = t'.S) (h4 : t.L = t'.L) : t = t' := by
  obtain ⟨a, b, c, e⟩ := t
  obtain ⟨a', b', c', e'⟩ := t'
  simp only [Tm.K, Tm.N, Tm.S, Tm.L] at h1 h2 h3 h4
  subst h1; subst h2; subst h3; subst h4
  rfl

theorem heap_two (w : World) (o1 o2 : Obj) : ((w.alloc o1).alloc o2).heap[w.heap.size]? = some o1 ∧ ((w.alloc o1).alloc o2).heap[w.heap.size + 1]? = some o2 := by
  constructor
  · rw [Below.heap_alloc _ _ _ (by simp)]; exact heap_alloc_new w o1
  · have := heap_alloc_new (w.alloc o1) o2
    simpa using this

set_option maxHeartbeats 2000000 in
theorem specSame_any : ∀ d, Sm 81 d := by
  intro d
  induction d with
  | zero =>
    intro k n s l ts k' n' s' l' ts' w hr hr' hw hw'
    obtain ⟨a, c, rfl⟩ := hr
    obtain ⟨a', c', rfl⟩ := hr'
    have hts : ts = ts' := by
      cases ts with
      | nil => cases ts' with
        | nil => rfl
        | cons t _ => exact Empty.elim t
      | cons t _ => exact Empty.elim t
    by_cases h : k = k' ∧ n = n' ∧ s = s'
    · obtain ⟨rfl, rfl, rfl⟩ := h
      have hA : Below w.heap.size w ((w.alloc (.cells #[.int .i64 k, .int .i64 n, .string s, .slice a 0 c] 26)).alloc (.cells #[.int .i64 k, .int .i64 n, .string s, .slice a' 0 c'] 26)) := ((Below.refl _ _).alloc (Nat.le_refl _) _).alloc (by simp) _
      go_enter Try.func81, Try.ntmps81
      go_wp2
      refine wp_loop_rounds 1 ?_
      rw [rounds_succ]
      go_wp2
      go_ret
      exact ⟨true, rfl, by simp [hts], hA⟩
    · refine (specSame_no 0 k n s a 0 c ts k' n' s' a' 0 c' ts' w (by omega) (by omega) (by
        rcases Classical.em (k = k') with h1 | h1
        · rcases Classical.em (n = n') with h2 | h2
          · exact .inr (.inr (.inl fun h3 => h ⟨h1, h2, h3⟩))
          · exact .inr (.inl h2)
        · exact .inl h1)).mono ?_
      rintro e w' ⟨rfl, hb⟩
      exact ⟨false, rfl, by simp only [Bool.false_eq_true, false_iff]; exact fun h4 => h ⟨h4.1, h4.2.1, h4.2.2.1⟩, hb⟩
  | succ d ih =>
    intro k n s l ts k' n' s' l' ts' w hr hr' hw hw'
    by_cases h : k = k' ∧ n = n' ∧ s = s' ∧ ts.length = ts'.length
    · obtain ⟨rfl, rfl, rfl, hlen⟩ := h
      obtain ⟨a, c, rfl, hel⟩ := hr
      obtain ⟨a', c', rfl, hel'⟩ := hr'
      have HE : Hid (∀ (i : Nat) (t : Tm (d + 1)), ts[i]? = some t → ∃ b o lv, a = some ⟨b, o, none⟩ ∧ Four w b (o + i * 4) t.K t.N t.S lv ∧ RdL d w lv t.L) := hel
      have HE' : Hid (∀ (i : Nat) (t : Tm (d + 1)), ts'[i]? = some t → ∃ b o lv, a' = some ⟨b, o, none⟩ ∧ Four w b (o + i * 4) t.K t.N t.S lv ∧ RdL d w lv t.L) := hel'
      have HW : Hid (WfL (d + 1) ts) := hw
      have HW' : Hid (WfL (d + 1) ts') := hw'
      have hm : ts.length ≤ 9223372036854775807 := hw.1
      rw [← hlen]
      obtain ⟨len, hl⟩ : ∃ len, ts.length = len := ⟨_, rfl⟩
      have HL : Hid (ts.length = len) := hl
      have HL' : Hid (ts'.length = len) := hlen.symm.trans hl
      rw [hl] at hm ⊢
      obtain ⟨W, hW⟩ : ∃ W, W = (w.alloc (.cells #[.int .i64 k, .int .i64 n, .string s, .slice a len c] 26)).alloc (.cells #[.int .i64 k, .int .i64 n, .string s, .slice a' len c'] 26) := ⟨_, rfl⟩
      have hA : Below w.heap.size w W := by rw [hW]; exact ((Below.refl _ _).alloc (Nat.le_refl _) _).alloc (by simp) _
      have hWz : W.heap.size = w.heap.size + 2 := by rw [hW]; simp
      have hB1 : W.heap[w.heap.size]? = some (.cells #[.int .i64 k, .int .i64 n, .string s, .slice a len c] 26 (0, 0)) := by rw [hW]; exact (heap_two w _ _).1
      have hB2 : W.heap[w.heap.size + 1]? = some (.cells #[.int .i64 k, .int .i64 n, .string s, .slice a' len c'] 26 (0, 0)) := by rw [hW]; exact (heap_two w _ _).2
      have HI := fun (t t' : Tm (d + 1)) (lv lv' : Value) (wr : World) (h1 : RdL d wr lv t.L) (h2 : RdL d wr lv' t'.L) (h3 : WfL d t.L) (h4 : WfL d t'.L) => ih t.K t.N t.S lv t.L t'.K t'.N t'.S lv' t'.L wr h1 h2 h3 h4
      have HII : Hid (∀ (t t' : Tm (d + 1)) (lv lv' : Value) (wr : World), RdL d wr lv t.L → RdL d wr lv' t'.L → WfL d t.L → WfL d t'.L → Calls Try.prog 81 #[.agg #[.int .i64 t.K, .int .i64 t.N, .string t.S, lv], .agg #[.int .i64 t'.K, .int .i64 t'.N, .string t'.S, lv']] wr fun e w' => ∃ b : Bool, e = .returned (.bool b) ∧ (b = true ↔ t.K = t'.K ∧ t.N = t'.N ∧ t.S = t'.S ∧ t.L = t'.L) ∧ Below wr.heap.size wr w') := HI
      clear ih HI hel hel' hw hw' hlen hl
      go_enter Try.func81, Try.ntmps81
      go_wp2_with fail
      rw [← hW]
      have HWW : Hid (W = _) := hW
      clear hW
      go_loopw [5] (fun i wr => ∃ j : Nat, j ≤ len ∧ i = .int .i64 j ∧ Below W.heap.size W wr ∧ Hid (∀ m, m < j → ts[m]? = ts'[m]?)) (fun i _ => len - (intOf i).toNat)
      case atStart => exact ⟨0, Nat.zero_le _, rfl, Below.refl _ _, fun m hm => by omega⟩
      case round =>
        obtain ⟨j, hj, rfl, hb, HS⟩ := hrel
        have c1 : wr.cell? ⟨w.heap.size, 3, none⟩ = some (.slice a len c) := by rw [cell_of_row wr _ 3 _ _ _ ((hb.block _ (by omega)).trans hB1)]; rfl
        have c2 : wr.cell? ⟨w.heap.size + 1, 3, none⟩ = some (.slice a' len c') := by rw [cell_of_row wr _ 3 _ _ _ ((hb.block _ (by omega)).trans hB2)]; rfl
        have hbw : Below w.heap.size w wr := hA.trans (hb.mono (by omega))
        by_cases hjl : j < len
        · obtain ⟨t, ht⟩ : ∃ t, ts[j]? = some t := ⟨_, List.getElem?_eq_getElem (by rw [HL.out]; exact hjl)⟩
          obtain ⟨t', ht'⟩ : ∃ t, ts'[j]? = some t := ⟨_, List.getElem?_eq_getElem (by rw [HL'.out]; exact hjl)⟩
          obtain ⟨b1, o1, lv1, rfl, F1, L1⟩ := HE.out j t ht
          obtain ⟨b2, o2, lv2, rfl, F2, L2⟩ := HE'.out j t' ht'
          obtain ⟨_, _, _, hwt⟩ := HW.out.2 t (List.mem_of_getElem? ht)
          obtain ⟨_, _, _, hwt'⟩ := HW'.out.2 t' (List.mem_of_getElem? ht')
          obtain ⟨f0, f1, f2, f3⟩ := F1.later hbw
          obtain ⟨g0, g1, g2, g3⟩ := F2.later hbw
          have L1' := L1.later hbw
          have L2' := L2.later hbw
          obtain ⟨x1, y1, z1, hs1⟩ := L1'.shape
          obtain ⟨x2, y2, z2, hs2⟩ := L2'.shape
          rw [hs1] at f3 L1'
          rw [hs2] at g3 L2'
          have hjl' : (j : Int) < (len : Int) := by omega
          have HC : Hid (∀ V : World, Below wr.heap.size wr V → Calls Try.prog 81 #[.agg #[.int .i64 t.K, .int .i64 t.N, .string t.S, .slice x1 y1 z1], .agg #[.int .i64 t'.K, .int .i64 t'.N, .string t'.S, .slice x2 y2 z2]] V fun e w' => ∃ b : Bool, e = .returned (.bool b) ∧ (b = true ↔ t.K = t'.K ∧ t.N = t'.N ∧ t.S = t'.S ∧ t.L = t'.L) ∧ Below V.heap.size V w') :=
            fun V hV => HII.out t t' _ _ V (L1'.later hV) (L2'.later hV) hwt hwt'
          have HT : Hid (ts[j]? = some t ∧ ts'[j]? = some t') := ⟨ht, ht'⟩
          clear F1 F2 L1 L2 L1' L2' hs1 hs2 HII ht ht' hwt hwt' hbw
          go_wp2_with fail
          go_region_with (go_at_call 81; refine (HC.out _ ?_).mono ?_; exact (Below.refl _ _).drew; rintro e V ⟨b, rfl, hbi, hB⟩)
          all_goals
            have hb2 : Below W.heap.size W V := hb.drew.trans (hB.mono hb.drew.size)
            have HBI : Hid (b = true ↔ t.K = t'.K ∧ t.N = t'.N ∧ t.S = t'.S ∧ t.L = t'.L) := hbi
            clear hb hB hbi f0 f1 f2 f3 g0 g1 g2 g3 c1 c2
            cases b
            · have HF : Hid (¬ ts = ts') := fun e => by
                have h1 := HT.out.1; have h2 := HT.out.2
                rw [e, h2] at h1
                cases h1
                exact Bool.noConfusion (HBI.out.2 ⟨rfl, rfl, rfl, rfl⟩)
              have hbf : Below w.heap.size w V := hA.trans (hb2.mono (by omega))
              clear hb2
              go_wp2
              go_ret
              exact ⟨false, rfl, by simp only [Bool.false_eq_true, false_iff]; exact fun h => HF.out h.2.2.2, hbf⟩
            · have HS2 : Hid (∀ m, m < j + 1 → ts[m]? = ts'[m]?) := fun m hm => by
                by_cases hmj : m < j
                · exact HS.out m hmj
                · obtain rfl : m = j := by omega
                  rw [HT.out.1, HT.out.2]
                  obtain ⟨e1, e2, e3, e4⟩ := HBI.out.1 rfl
                  rw [tm_ext e1 e2 e3 e4]
              go_wp2
              go_roundw
              case rel => exact ⟨j + 1, by omega, by go_num, hb2, HS2⟩
              case measure => simp [intOf]; omega
        · have HF : Hid (ts = ts') := List.ext_getElem? fun m => by
            by_cases hmj : m < j
            · exact HS.out m hmj
            · rw [List.getElem?_eq_none (by have := HL.out; omega), List.getElem?_eq_none (by have := HL'.out; omega)]
          clear hb
          go_wp2
          go_ret
          exact ⟨true, rfl, by simp [HF.out], hbw⟩
    · obtain ⟨a, c, e1⟩ := hr.len
      obtain ⟨a', c', e2⟩ := hr'.len
      rw [e1, e2]
      refine (specSame_no (d + 1) k n s a _ c ts k' n' s' a' _ c' ts' w hw.len hw'.len (by
        rcases Classical.em (k = k') with h1 | h1
        · rcases Classical.em (n = n') with h2 | h2
          · rcases Classical.em (s = s') with h3 | h3
            · exact .inr (.inr (.inr fun h4 => h ⟨h1, h2, h3, h4⟩))
            · exact .inr (.inr (.inl h3))
          · exact .inr (.inl h2)
        · exact .inl h1)).mono ?_
      rintro e w' ⟨rfl, hb⟩
      exact ⟨false, rfl, by simp only [Bool.false_eq_true, false_iff]; exact fun h4 => h ⟨h4.1, h4.2.1, h4.2.2.1, by rw [h4.2.2.2]⟩, hb⟩
end Go.Proofs.Ythjmbbpakidkdaa
