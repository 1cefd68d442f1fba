/- The text of a term: the program's. -/
import Derived.Test.YtickaplokjdijaaDoorDr2
namespace Go.Proofs.YtickaplokjdijaaDoor
open Go.RowKit
set_option linter.unusedVariables false

theorem txtP_cnt (d : Nat) (ts : List (Tm (d + 1))) (j : Nat) (h : OkL (d + 1) ts) : (txtP d ts j).size ≤ 32 * cntP d ts j := by
  have h1 := txtL_sum (d + 1) (ts.take j) (fun t ht => h t (List.mem_of_mem_take ht))
  have h2 : txtL (d + 1) (ts.take j) = (txtL (d + 1) ts).take j := List.map_take ..
  have h3 := joinB_size ((txtL (d + 1) ts).take j)
  rw [← h2] at h3
  unfold txtP
  rw [← h2]
  exact Nat.le_trans h3 h1

set_option maxHeartbeats 2000000 in
theorem wparts_any : ∀ d, WPartsC d := by
  intro d
  induction d with
  | zero =>
    intro w0 b l op en a c ts w hr hw hok ht hB h1 h2 hl
    have hts : ts = [] := by
      cases ts with
      | nil => rfl
      | cons t _ => exact Empty.elim t
    subst hts
    have HR : Hid ((l ++ op.data.toList) ++ en.data.toList = l ++ ((op ++ joinB (txtL 0 [])) ++ en).data.toList) := by
      show _ = _
      rw [ba_append, ba_append, show (joinB (txtL 0 [])).data.toList = [] from rfl, List.append_nil, List.append_assoc]
    have hW := write_any w0 b l op w hB (by omega)
    clear hr hw hok hB ht
    go_enter Tryd.func81, Tryd.ntmps81
    go_wp2_with fail
    refine hW.mono ?_
    clear hW
    rintro e w1 ⟨rfl, HB1, _⟩
    have hW := write_any w0 b _ en w1 HB1.out (by rw [List.length_append, ← Lib.size_eq]; omega)
    rw [HR.out] at hW
    clear HB1 HR
    go_wp2_with fail
    refine wp_loop_rounds 1 ?_
    rw [rounds_succ]
    go_wp2_with fail
    refine hW.mono ?_
    clear hW
    rintro e w2 ⟨rfl, h2, _⟩
    go_wp2_with fail
    go_end0
    exact ⟨rfl, h2⟩
  | succ d ih =>
    intro w0 b l op en a c ts w hr hw hok ht hB h1 h2 hl
    have HI : Hid (WFormC d) := wform_of d ih
    obtain ⟨a', c', e', hel⟩ := hr
    obtain ⟨rfl, rfl⟩ : a = a' ∧ c = c' := by simpa using e'
    have HE : Hid (∀ (i : Nat) (t : Tm (d + 1)), ts[i]? = some t → ∃ b o lv, a = some ⟨b, o, none⟩ ∧ Four w0 b (o + i * 4) t.K t.N t.S lv ∧ RdL d w0 lv t.L) := hel
    have HWF : Hid (WfL (d + 1) ts) := hw
    have HOK : Hid (OkL (d + 1) ts) := hok
    have HT : Hid (TabOk w0) := ht
    have hln : ts.length ≤ 9223372036854775807 := hw.1
    obtain ⟨len, hlen⟩ : ∃ len, ts.length = len := ⟨_, rfl⟩
    have HL : Hid (ts.length = len) := hlen
    have HCN : Hid (l.length + 32 + 32 * cntL (d + 1) ts ≤ 1000000000) := hl
    have hW := write_any w0 b l op w hB (by omega)
    rw [hlen] at hln ⊢
    clear hel hw hok hlen ih e' hB ht
    go_enter Tryd.func81, Tryd.ntmps81
    go_wp2_with fail
    refine hW.mono ?_
    clear hW
    rintro e w1 ⟨rfl, HB1, _⟩
    obtain ⟨l1, hl1⟩ : ∃ l1, l ++ op.data.toList = l1 := ⟨_, rfl⟩
    have HL1 : Hid (l ++ op.data.toList = l1) := hl1
    have hll : l1.length = l.length + 1 := by rw [← hl1, List.length_append, ← Lib.size_eq, h1]
    rw [hl1] at HB1
    clear hl1
    go_wp2_with fail
    go_loopw [15] (fun i wr => ∃ j : Nat, j ≤ len ∧ i = .int .i64 j ∧ Hid (Bd w0 b (l1 ++ (txtP d ts j).data.toList) wr)) (fun i _ => len - (intOf i).toNat)
    case atStart => exact ⟨0, Nat.zero_le _, rfl, by rw [txtP_zero, show (⟨#[]⟩ : ByteArray).data.toList = [] from rfl, List.append_nil]; exact HB1⟩
    case round =>
      obtain ⟨j, hj, rfl, HB⟩ := hrel
      have hbw : Below w0.heap.size w0 wr := HB.out.2
      by_cases hjl : j < len
      · obtain ⟨t, ht⟩ : ∃ t, ts[j]? = some t := ⟨_, List.getElem?_eq_getElem (by rw [HL.out]; exact hjl)⟩
        obtain ⟨b1, o1, lv1, rfl, F1, L1⟩ := HE.out j t ht
        obtain ⟨a2, c2', hlv⟩ := L1.len
        subst hlv
        obtain ⟨_, hwn, hst, hwt⟩ := HWF.out.2 t (List.mem_of_getElem? ht)
        obtain ⟨hsh, hokt⟩ := HOK.out t (List.mem_of_getElem? ht)
        obtain ⟨f0, f1, f2, f3⟩ := F1.later hbw
        have hstep := txtP_succ d ts j t ht
        have hpsz := txtP_size d ts j HOK.out
        have hcc : 1 + cntL d t.L ≤ cntL (d + 1) ts := by
          have h7 := cntP_succ d ts j t ht
          have h8 := cntP_le d ts (j + 1)
          omega
        have hps : (txtP d ts j).size ≤ 32 * cntP d ts j := txtP_cnt d ts j HOK.out
        have hcp : cntP d ts j + (1 + cntL d t.L) ≤ cntL (d + 1) ts := by
          have h7 := cntP_succ d ts j t ht
          have h8 := cntP_le d ts (j + 1)
          omega
        have hcl := HCN.out
        obtain ⟨l2, hl2⟩ : ∃ l2, t.L.length = l2 := ⟨_, rfl⟩
        obtain ⟨W, hW⟩ : ∃ W, W = wr.alloc (.cells #[.int .i64 t.K, .int .i64 t.N, .string t.S, .slice a2 l2 c2'] 42) := ⟨_, rfl⟩
        have hwW : Below wr.heap.size wr W := by rw [hW]; exact (Below.refl _ _).alloc (Nat.le_refl _) _
        have hbox : W.heap[wr.heap.size]? = some (.cells #[.int .i64 t.K, .int .i64 t.N, .string t.S, .slice a2 l2 c2'] 42 (0, 0)) := by rw [hW]; exact heap_alloc_new wr _
        have HBW : Hid (Bd w0 b (l1 ++ (txtP d ts j).data.toList) W) := HB.out.later hwW
        have hbne : wr.heap.size ≠ b := fun e => by
          have h9 := HB.out.1
          have : b < wr.heap.size := by
            rcases h9 with ⟨_, v, q1, _⟩ | ⟨_, v, q1, _⟩ <;> exact (Array.getElem?_eq_some_iff.1 q1).1
          omega
        have HW : Hid (W = _) := hW
        have hjl' : (j : Int) < (len : Int) := by omega
        have HI2 : Hid (∀ (m : List UInt8) (X : World), Bd w0 b m X → m.length + 32 + 32 * cntL d t.L ≤ 1000000000 → Calls Tryd.prog 50 #[.pointer (some ⟨b, 0, none⟩), formV t.K t.N t.S (.slice a2 l2 c2')] X fun e w' => e = .returned (.tuple #[]) ∧ Hid (Bd w0 b (m ++ (txtT d t.K t.N t.S t.L).data.toList) w')) := fun m X hX hm => by
          rw [← hl2]; exact HI.out w0 b m t.K t.N t.S a2 c2' t.L X L1 hwt hokt hsh HT.out hX hm
        rw [hl2] at f3
        clear F1 L1 hwt hst hsh hokt HE HWF HOK HI hwn hl2 HB ht
        by_cases hj0 : 0 < j
        · have HST : Hid (l1 ++ (txtP d ts (j + 1)).data.toList = ((l1 ++ (txtP d ts j).data.toList) ++ (⟨#[44]⟩ : ByteArray).data.toList) ++ (txtT d t.K t.N t.S t.L).data.toList) := by
            show _ = _
            rw [hstep, if_pos hj0, ba_append, ba_append]
            simp only [List.append_assoc]
          have hWs := write_any w0 b _ ⟨#[44]⟩ W HBW.out (by rw [List.length_append, ← Lib.size_eq]; show _ + 1 ≤ _; omega)
          have hWF : ∀ X, Bd w0 b ((l1 ++ (txtP d ts j).data.toList) ++ (⟨#[44]⟩ : ByteArray).data.toList) X → _ := fun X hX => HI2.out _ X hX (by rw [List.length_append, List.length_append, ← Lib.size_eq]; show _ + 1 + 32 + _ ≤ _; omega)
          have hbj : decide ((0 : Int) < j) = true := by simp; omega
          rw [hW] at hWs
          clear hW hstep HBW HI2 hpsz
          go_wp2_with fail
          refine hWs.mono ?_
          clear hWs
          rintro e w2 ⟨rfl, BDC, hbk⟩
          rw [← HW.out] at hbk
          have hbox2 := hbk.out _ _ _ _ hbne (by decide) hbox
          have c0 : w2.cell? ⟨wr.heap.size, 0, none⟩ = some (.int .i64 t.K) := by rw [cell_of_row w2 _ 0 _ _ _ hbox2]; rfl
          have c1 : w2.cell? ⟨wr.heap.size, 1, none⟩ = some (.int .i64 t.N) := by rw [cell_of_row w2 _ 1 _ _ _ hbox2]; rfl
          have c2 : w2.cell? ⟨wr.heap.size, 2, none⟩ = some (.string t.S) := by rw [cell_of_row w2 _ 2 _ _ _ hbox2]; rfl
          have c3 : w2.cell? ⟨wr.heap.size, 3, none⟩ = some (.slice a2 l2 c2') := by rw [cell_of_row w2 _ 3 _ _ _ hbox2]; rfl
          clear hbk hbox hbox2 HW hwW f0 f1 f2 f3
          go_wp2_with fail
          refine (formOf_any _ _ _ _ _ _ _).mono ?_
          rintro e X ⟨rfl, hX⟩
          have hBX := BDC.out.later hX
          clear hX c0 c1 c2 c3
          have hC := hWF X hBX
          clear hWF
          go_wp2_with fail
          refine hC.mono ?_
          clear hC
          rintro e w3 ⟨rfl, HB3⟩
          have HB4 : Hid (Bd w0 b (l1 ++ (txtP d ts (j + 1)).data.toList) w3) := by
            rw [HST.out]; exact HB3
          clear HB3 HST hBX
          go_wp2_with fail
          go_roundw
          case rel => exact ⟨j + 1, by omega, by go_num, HB4⟩
          case measure => simp [intOf]; omega
        · have HST : Hid (l1 ++ (txtP d ts (j + 1)).data.toList = (l1 ++ (txtP d ts j).data.toList) ++ (txtT d t.K t.N t.S t.L).data.toList) := by
            show _ = _
            rw [hstep, if_neg hj0, ba_append]
            simp only [List.append_assoc]
          have hWF : ∀ X, Bd w0 b (l1 ++ (txtP d ts j).data.toList) X → _ := fun X hX => HI2.out _ X hX (by rw [List.length_append, ← Lib.size_eq]; omega)
          have hbj : decide ((0 : Int) < j) = false := by simp; omega
          have BDC : Hid (Bd w0 b (l1 ++ (txtP d ts j).data.toList) W) := HBW
          rw [hW] at BDC
          have c0 := True.intro
          have c1 := True.intro
          have c2 := True.intro
          have c3 := True.intro
          clear hW hstep HBW HI2 hpsz HW hbox hwW
          go_wp2_with fail
          refine (formOf_any _ _ _ _ _ _ _).mono ?_
          rintro e X ⟨rfl, hX⟩
          have hBX := BDC.out.later hX
          clear hX c0 c1 c2 c3
          have hC := hWF X hBX
          clear hWF
          go_wp2_with fail
          refine hC.mono ?_
          clear hC
          rintro e w3 ⟨rfl, HB3⟩
          have HB4 : Hid (Bd w0 b (l1 ++ (txtP d ts (j + 1)).data.toList) w3) := by
            rw [HST.out]; exact HB3
          clear HB3 HST hBX
          go_wp2_with fail
          go_roundw
          case rel => exact ⟨j + 1, by omega, by go_num, HB4⟩
          case measure => simp [intOf]; omega
      · have hall := txtP_all d ts j (by have := HL.out; omega)
        have HR : Hid ((l1 ++ (txtP d ts j).data.toList) ++ en.data.toList = l ++ ((op ++ joinB (txtL (d + 1) ts)) ++ en).data.toList) := by
          show _ = _
          rw [hall, ba_append, ba_append, ← HL1.out]
          simp only [List.append_assoc]
        have hps := txtP_size d ts j HOK.out
        have hcl := HCN.out
        have hWs := write_any w0 b _ en wr HB.out (by rw [List.length_append, ← Lib.size_eq]; omega)
        rw [HR.out] at hWs
        have hbl : decide ((j : Int) < len) = false := by simp; omega
        clear HR hall HB HE HWF HOK HI hbw
        go_wp2_with fail
        refine hWs.mono ?_
        clear hWs
        rintro e w2 ⟨rfl, h2, _⟩
        go_wp2_with fail
        go_end0
        exact ⟨rfl, h2⟩

/-- What TermText hands back. -/
def TTxt (d : Nat) (k n : Int) (s : ByteArray) (ts : List (Tm d)) (r : ByteArray) : Prop := (Right d k n s ts 8 300 ∧ r = txtT d k n s ts) ∨ (¬ Right d k n s ts 8 300 ∧ r = ⟨#[]⟩)

set_option maxHeartbeats 2000000 in
theorem termText_any (d : Nat) (k n : Int) (s : ByteArray) (l : Value) (ts : List (Tm d)) (w : World) (hr : RdL d w l ts) (hw : WfL d ts) (hs : s.size ≤ 9223372036854775807) (ht : TabOk w) :
    Calls Tryd.prog 20 #[.agg #[.int .i64 k, .int .i64 n, .string s, l]] w fun e w' => ∃ r, e = .returned (.string r) ∧
      Hid (TTxt d k n s ts r) ∧ Below w.heap.size w w' := by
  obtain ⟨a, c, e⟩ := hr.len
  obtain ⟨W, hW⟩ : ∃ W, W = w.alloc (.cells #[.int .i64 k, .int .i64 n, .string s, l] 42) := ⟨_, rfl⟩
  have hA : Below w.heap.size w W := by rw [hW]; exact (Below.refl _ _).alloc (Nat.le_refl _) _
  have hC := termOk_any d k n s l ts W (hr.later hA) hw hs
  have hB1 : W.heap[w.heap.size]? = some (.cells #[.int .i64 k, .int .i64 n, .string s, l] 42 (0, 0)) := by rw [hW]; exact heap_alloc_new w _
  have hWz : W.heap.size = w.heap.size + 1 := by rw [hW]; simp
  have HW : Hid (W = _) := hW
  have HR : Hid (RdL d w l ts) := hr
  have HWF : Hid (WfL d ts) := hw
  have HT : Hid (TabOk w) := ht
  rw [hW] at hC
  rw [e] at hC hW HW hB1 HR ⊢
  clear hr hW hw ht
  go_enter Tryd.func20, Tryd.ntmps20
  go_wp2_with fail
  refine hC.mono ?_
  clear hC
  rintro e1 w1 ⟨b, rfl, hb, hB⟩
  rw [← HW.out] at hB
  have hb1 : Below w.heap.size w w1 := hA.trans (hB.mono hA.size)
  have hh1 : w1.heap[w.heap.size]? = _ := (hB.block _ (by omega)).trans hB1
  have hz1 : w.heap.size < w1.heap.size := (Array.getElem?_eq_some_iff.1 hh1).1
  clear hB hA hB1 hWz HW
  cases b
  · have HN : Hid (TTxt d k n s ts ⟨#[]⟩) := .inr ⟨(fun h => by have := hb.2 h; cases this), rfl⟩
    clear hb
    go_wp2_with fail
    go_ret
    exact ⟨_, rfl, HN, hb1⟩
  · have HN : Hid (Right d k n s ts 8 300) := hb.1 rfl
    obtain ⟨V, hV⟩ : ∃ V, V = w1.alloc (.cells #[.pointer none, .slice none 0 0] 62) := ⟨_, rfl⟩
    have hV1 : Below w1.heap.size w1 V := by rw [hV]; exact (Below.refl _ _).alloc (Nat.le_refl _) _
    have hBV : Bd w1 w1.heap.size [] V := ⟨by rw [hV]; exact Lib.IsBuilderF.of (Lib.fresh_isBuilder _ 5 w1), hV1⟩
    have hhV := (hV1.block _ hz1).trans hh1
    have hbox : V.heap[w.heap.size]? = _ := hhV
    have q0 : V.cell? ⟨w.heap.size, 0, none⟩ = some (.int .i64 k) := by rw [cell_of_row V _ 0 _ _ _ hhV]; rfl
    have q1 : V.cell? ⟨w.heap.size, 1, none⟩ = some (.int .i64 n) := by rw [cell_of_row V _ 1 _ _ _ hhV]; rfl
    have q2 : V.cell? ⟨w.heap.size, 2, none⟩ = some (.string s) := by rw [cell_of_row V _ 2 _ _ _ hhV]; rfl
    have q3 : V.cell? ⟨w.heap.size, 3, none⟩ = some (.slice a ts.length c) := by rw [cell_of_row V _ 3 _ _ _ hhV]; rfl
    have hFO := formOf_any k n s a ts.length c V
    have HV : Hid (V = _) := hV
    have HBV : Hid (Bd w1 w1.heap.size [] V) := hBV
    rw [hV] at hFO q0 q1 q2 q3
    have HWFM : Hid (∀ X, Bd w1 w1.heap.size [] X → Calls Tryd.prog 50 #[.pointer (some ⟨w1.heap.size, 0, none⟩), formV k n s (.slice a ts.length c)] X fun e w' => e = .returned (.tuple #[]) ∧ Hid (Bd w1 w1.heap.size ([] ++ (txtT d k n s ts).data.toList) w')) := fun X hX =>
      wform_of d (wparts_any d) w1 w1.heap.size [] k n s a c ts X (HR.out.later hb1) HWF.out HN.out.2.1 HN.out.1 (HT.out.later hb1) hX (by have := HN.out.2.2.2; simp; omega)
    have HRR : Hid (TTxt d k n s ts (txtT d k n s ts)) := .inl ⟨HN.out, rfl⟩
    obtain ⟨len, hlen⟩ : ∃ len, ts.length = len := ⟨_, rfl⟩
    rw [hlen] at hFO q3 HWFM
    clear hb hV hhV hh1 hbox hBV HR HWF HT HN hlen
    go_wp2_with fail
    refine hFO.mono ?_
    clear hFO q0 q1 q2 q3
    rintro e X ⟨rfl, hX⟩
    rw [← HV.out] at hX
    have hC := HWFM.out X (HBV.out.later hX)
    clear HWFM HBV hX HV hV1
    go_wp2_with fail
    refine hC.mono ?_
    clear hC
    rintro e Y ⟨rfl, HY⟩
    have hS := Tryd.Builder_String_any_k w1.heap.size w1.heap.size ([] ++ (txtT d k n s ts).data.toList) Y HY.out.1 HY.out.2.size
    have hbY : Below w.heap.size w Y := hb1.trans (HY.out.2.mono hb1.size)
    rw [List.nil_append, show (⟨(txtT d k n s ts).data.toList.toArray⟩ : ByteArray) = txtT d k n s ts from rfl] at hS
    generalize txtT d k n s ts = R at hS HRR
    clear HY
    go_wp2_with fail
    refine hS.mono ?_
    clear hS
    rintro e Z ⟨rfl, _, hZ, _⟩
    have hbZ : Below w.heap.size w Z := hbY.trans (hZ.mono hb1.size)
    clear hbY hZ
    go_wp2_with fail
    go_ret
    exact ⟨R, rfl, HRR, hbZ⟩

end Go.Proofs.YtickaplokjdijaaDoor
