/- The model's SameCode: two are the same where they are one as data. -/
import Derived.Test.YtahmbnokjfkfiaaDtCode
import Derived.Test.YtahmbnokjfkfiaaAft
import Derived.Test.YtahmbnokjfkfiaaLo0
import Derived.Laws.StructEq
namespace Go.Proofs.Ytahmbnokjfkfiaa
open Go.RowKit
set_option linter.unusedVariables false

/-- Whether two are one. -/
noncomputable def eqw {α : Type} (a b : α) : Bool := @decide (a = b) (Classical.propDecidable _)
theorem eqw_yes {α : Type} {a b : α} (h : a = b) : eqw a b = true := by unfold eqw; exact @decide_eq_true _ (Classical.propDecidable _) h
theorem eqw_no {α : Type} {a b : α} (h : ¬ a = b) : eqw a b = false := by unfold eqw; exact @decide_eq_false _ (Classical.propDecidable _) h

theorem Pt.ext {d : Nat} {a b : Tm (d + 1)} (h0 : a.K = b.K) (h1 : a.N = b.N) (h2 : a.S = b.S) (h3 : a.L = b.L) : a = b := by
  obtain ⟨a0, a1, a2, a3⟩ := a
  obtain ⟨b0, b1, b2, b3⟩ := b
  have e0 : a0 = b0 := h0
  have e1 : a1 = b1 := h1
  have e2 : a2 = b2 := h2
  have e3 : a3 = b3 := h3
  subst e0 e1 e2 e3
  rfl
theorem DFn.ext' {a b : DFn} (h0 : a.Name = b.Name) (h1 : a.Args = b.Args) (h2 : a.Slots = b.Slots) (h3 : a.Ins = b.Ins) : a = b := by
  cases a; cases b; simp at h0 h1 h2 h3; simp [*]
theorem DIns.ext' {a b : DIns} (h0 : a.Op = b.Op) (h1 : a.N = b.N) (h2 : a.S = b.S) (h3 : a.To = b.To) : a = b := by
  cases a; cases b; simp at h0 h1 h2 h3; simp [*]
theorem DCode.ext' {d : Nat} {a b : DCode d} (h0 : a.Fns = b.Fns) (h1 : a.Pats = b.Pats) : a = b := by
  cases a; cases b; simp at h0 h1; simp [*]

theorem take_sameW {α : Type} {xs ys : List α} {j : Nat} {x y : α} (hx : xs[j]? = some x) (hy : ys[j]? = some y) (h : xs.take j = ys.take j) (e : x = y) : xs.take (j + 1) = ys.take (j + 1) := by
  subst e
  have h1 := (List.getElem?_eq_some_iff.1 hx)
  have h2 := (List.getElem?_eq_some_iff.1 hy)
  rw [List.take_succ_eq_append_getElem h1.1, List.take_succ_eq_append_getElem h2.1, h1.2, h2.2, h]
theorem unlike_atW {α : Type} {xs ys : List α} {j : Nat} {x y : α} (hx : xs[j]? = some x) (hy : ys[j]? = some y) (e : ¬ x = y) : ¬ xs = ys := fun h => by
  subst h
  rw [hx] at hy
  exact e (Option.some.inj hy)
theorem take_allW {α : Type} {xs ys : List α} {n : Nat} (hx : xs.length = n) (hy : ys.length = n) (h : xs.take n = ys.take n) : xs = ys := by
  rw [List.take_of_length_le (by omega), List.take_of_length_le (by omega)] at h
  exact h

set_option maxHeartbeats 2000000 in
theorem specSamePat_no (x0 : Int) (x1 : Int) (x2 : ByteArray) (y0 : Int) (y1 : Int) (y2 : ByteArray) (a3 : Option Addr) (l3 c3 : Nat) (b3 : Option Addr) (m3 d3 : Nat) (w : World) (q3 : l3 ≤ 1048576) (r3 : m3 ≤ 1048576) (h : ¬ (x0 = y0 ∧ x1 = y1 ∧ x2 = y2 ∧ l3 = m3)) :
    Calls Try.prog 23 #[.agg #[.int .i64 x0, .int .i64 x1, .string x2, .slice a3 l3 c3], .agg #[.int .i64 y0, .int .i64 y1, .string y2, .slice b3 m3 d3]] w fun e w' => e = .returned (.bool false) ∧ Below w.heap.size w w' := by
  have hA : Below w.heap.size w ((w.alloc (.cells #[.int .i64 x0, .int .i64 x1, .string x2, .slice a3 l3 c3] 59)).alloc (.cells #[.int .i64 y0, .int .i64 y1, .string y2, .slice b3 m3 d3] 59)) := ((Below.refl _ _).alloc (Nat.le_refl _) _).alloc (by simp) _
  by_cases h0 : x0 = y0
  · subst h0
    by_cases h1 : x1 = y1
    · subst h1
      by_cases h2 : x2 = y2
      · subst h2
        have h4 : ¬ l3 = m3 := fun e => h ⟨rfl, rfl, rfl, e⟩
        have h4' : ¬ (l3 : Int) = (m3 : Int) := by omega
        clear h
        go_enter Try.func23, Try.ntmps23
        go_wp2_with fail
        go_ret
        exact ⟨rfl, hA⟩
      · have h2' : ¬ x2.toList = y2.toList := fun e => h2 (str_same0 e)
        clear q3 r3 h
        go_enter Try.func23, Try.ntmps23
        go_wp2_with fail
        go_ret
        exact ⟨rfl, hA⟩
    · skip
      clear q3 r3 h
      go_enter Try.func23, Try.ntmps23
      go_wp2_with fail
      go_ret
      exact ⟨rfl, hA⟩
  · skip
    clear q3 r3 h
    go_enter Try.func23, Try.ntmps23
    go_wp2_with fail
    go_ret
    exact ⟨rfl, hA⟩

set_option maxHeartbeats 2000000 in
theorem specSameFn_no (x0 : ByteArray) (x1 : Int) (x2 : Int) (y0 : ByteArray) (y1 : Int) (y2 : Int) (a3 : Option Addr) (l3 c3 : Nat) (b3 : Option Addr) (m3 d3 : Nat) (w : World) (q3 : l3 ≤ 1048576) (r3 : m3 ≤ 1048576) (h : ¬ (x0 = y0 ∧ x1 = y1 ∧ x2 = y2 ∧ l3 = m3)) :
    Calls Try.prog 22 #[.agg #[.string x0, .int .i64 x1, .int .i64 x2, .slice a3 l3 c3], .agg #[.string y0, .int .i64 y1, .int .i64 y2, .slice b3 m3 d3]] w fun e w' => e = .returned (.bool false) ∧ Below w.heap.size w w' := by
  have hA : Below w.heap.size w ((w.alloc (.cells #[.string x0, .int .i64 x1, .int .i64 x2, .slice a3 l3 c3] 56)).alloc (.cells #[.string y0, .int .i64 y1, .int .i64 y2, .slice b3 m3 d3] 56)) := ((Below.refl _ _).alloc (Nat.le_refl _) _).alloc (by simp) _
  by_cases h0 : x0 = y0
  · subst h0
    by_cases h1 : x1 = y1
    · subst h1
      by_cases h2 : x2 = y2
      · subst h2
        have h4 : ¬ l3 = m3 := fun e => h ⟨rfl, rfl, rfl, e⟩
        have h4' : ¬ (l3 : Int) = (m3 : Int) := by omega
        clear h
        go_enter Try.func22, Try.ntmps22
        go_wp2_with fail
        go_ret
        exact ⟨rfl, hA⟩
      · skip
        clear q3 r3 h
        go_enter Try.func22, Try.ntmps22
        go_wp2_with fail
        go_ret
        exact ⟨rfl, hA⟩
    · skip
      clear q3 r3 h
      go_enter Try.func22, Try.ntmps22
      go_wp2_with fail
      go_ret
      exact ⟨rfl, hA⟩
  · have h0' : ¬ x0.toList = y0.toList := fun e => h0 (str_same0 e)
    clear q3 r3 h
    go_enter Try.func22, Try.ntmps22
    go_wp2_with fail
    go_ret
    exact ⟨rfl, hA⟩

def SpC (d : Nat) : Prop := ∀ (vs us : List Value) (a b : Tm d) (w : World), PatR d w vs a → PatR d w us b → szPatD d a ≤ 1048576 → szPatD d b ≤ 1048576 →
  Calls Try.prog 23 #[.agg vs.toArray, .agg us.toArray] w fun e w' => e = .returned (.bool (eqw a b)) ∧ Below w.heap.size w w'

set_option maxRecDepth 100000 in
set_option maxHeartbeats 4000000 in
theorem specSamePat_of (d : Nat) (H : SpC d) : SpC (d + 1) := by
  rintro vs us x y w ⟨ve, rfl, h1⟩ ⟨ue, rfl, g1⟩ hz hy
  have hz' : x.S.size + szRow (szPatD d) x.L ≤ 1048576 := hz
  have hy' : y.S.size + szRow (szPatD d) y.L ≤ 1048576 := hy
  obtain ⟨a3, c3, rfl, hel⟩ := h1
  obtain ⟨b3, d3, rfl, gel⟩ := g1
  have HE : Hid (∀ (i : Nat) (e : Tm d), x.L[i]? = some e → ∃ b o vs, a3 = some ⟨b, o, none⟩ ∧ vs.length = 4 ∧ (∀ (j : Nat) (u : Value), vs[j]? = some u → w.cell? ⟨b, o + i * 4 + j, none⟩ = some u) ∧ PatR d w vs e) := hel
  have GE : Hid (∀ (i : Nat) (e : Tm d), y.L[i]? = some e → ∃ b o vs, b3 = some ⟨b, o, none⟩ ∧ vs.length = 4 ∧ (∀ (j : Nat) (u : Value), vs[j]? = some u → w.cell? ⟨b, o + i * 4 + j, none⟩ = some u) ∧ PatR d w vs e) := gel
  have e1 : x.L.length ≤ szRow (szPatD d) x.L := Nat.le_add_right _ _
  have e3 : y.L.length ≤ szRow (szPatD d) y.L := Nat.le_add_right _ _
  by_cases h : x.K = y.K ∧ x.N = y.N ∧ x.S = y.S ∧ x.L.length = y.L.length
  case neg =>
    refine (specSamePat_no x.K x.N x.S y.K y.N y.S a3 _ c3 b3 _ d3 w (by omega) (by omega) h).mono ?_
    rintro e w' ⟨rfl, hb⟩
    have : ¬ x = y := fun e => h (by subst e; exact ⟨rfl, rfl, rfl, rfl⟩)
    exact ⟨by rw [eqw_no this], hb⟩
  obtain ⟨k0, k1, k2, k3⟩ := h
  have HEQ : Hid (∀ j, x.L.length ≤ j → x.L.take j = y.L.take j → x = y) := fun j hj h3 => by
    rw [List.take_of_length_le hj, List.take_of_length_le (by omega)] at h3
    exact Pt.ext k0 k1 k2 h3
  have HNE : Hid (¬ x.L = y.L → ¬ x = y) := fun h e => h (by rw [e])
  rw [← k0, ← k1, ← k2, ← k3]
  obtain ⟨B, hB⟩ : ∃ B, eqw x y = B := ⟨_, rfl⟩
  have HBY : Hid (x = y → B = true) := fun h => by rw [← hB]; exact eqw_yes h
  have HBN : Hid (¬ x = y → B = false) := fun h => by rw [← hB]; exact eqw_no h
  rw [hB]
  have HZE : Hid (szRow (szPatD d) x.L ≤ 1048576 ∧ szRow (szPatD d) y.L ≤ 1048576) := ⟨by omega, by omega⟩
  obtain ⟨XY, hXY⟩ : ∃ F : Prop, (x = y) = F := ⟨_, rfl⟩
  rw [hXY] at HBY HBN
  simp only [hXY] at HEQ HNE
  clear hB hXY k0 k1 k2
  obtain ⟨ES, hES⟩ : ∃ l, x.L = l := ⟨_, rfl⟩
  obtain ⟨FS, hFS⟩ : ∃ l, y.L = l := ⟨_, rfl⟩
  obtain ⟨K, hK⟩ : ∃ K, x.K = K := ⟨_, rfl⟩
  obtain ⟨N, hN⟩ : ∃ N, x.N = N := ⟨_, rfl⟩
  obtain ⟨S, hS⟩ : ∃ S, x.S = S := ⟨_, rfl⟩
  rw [hES, hFS] at HEQ HNE HZE k3
  rw [hES] at HE e1 hz'
  rw [hFS] at GE e3 hy'
  rw [hK, hN, hS, hES]
  have hl3 : ES.length ≤ 1048576 := by omega
  clear hK hN hS hES hFS hz hz' hy hy' hel gel e1 e3
  obtain ⟨l3, hl⟩ : ∃ l, ES.length = l := ⟨_, rfl⟩
  have HL : Hid (ES.length = l3 ∧ FS.length = l3) := ⟨hl, by omega⟩
  rw [hl] at HEQ hl3 ⊢
  clear hl k3
  obtain ⟨W, hW⟩ : ∃ W, W = (w.alloc (.cells #[.int .i64 K, .int .i64 N, .string S, .slice a3 l3 c3] 59)).alloc (.cells #[.int .i64 K, .int .i64 N, .string S, .slice b3 l3 d3] 59) := ⟨_, rfl⟩
  have hA : Below w.heap.size w W := by rw [hW]; exact ((Below.refl _ _).alloc (Nat.le_refl _) _).alloc (by simp) _
  have HB1 : Hid (W.heap[w.heap.size]? = some (.cells #[.int .i64 K, .int .i64 N, .string S, .slice a3 l3 c3] 59 (0, 0))) := by rw [hW]; show _ = _; rw [Below.heap_alloc _ _ _ (by simp)]; exact heap_alloc_new w _
  have HB2 : Hid (W.heap[w.heap.size + 1]? = some (.cells #[.int .i64 K, .int .i64 N, .string S, .slice b3 l3 d3] 59 (0, 0))) := by rw [hW]; show _ = _; have := heap_alloc_new (w.alloc (.cells #[.int .i64 K, .int .i64 N, .string S, .slice a3 l3 c3] 59)) (.cells #[.int .i64 K, .int .i64 N, .string S, .slice b3 l3 d3] 59); simpa using this
  have HBW : Hid (Below w.heap.size w W) := hA
  have HWS : Hid (W = _) := hW
  have HI : Hid (SpC d) := H
  clear hW H hA
  go_enter Try.func23, Try.ntmps23
  go_wp2_with fail
  rw [← HWS.out]
  clear HWS
  go_loopw [5] (fun i wr => ∃ (j : Nat), j ≤ l3 ∧ i = .int .i64 j ∧ Hid (Below W.heap.size W wr) ∧ Hid (ES.take j = FS.take j)) (fun i _ => l3 - (intOf i).toNat)
  case atStart => exact ⟨0, Nat.zero_le _, rfl, Below.refl _ _, rfl⟩
  case round =>
    obtain ⟨j, hj, rfl, hb, HS⟩ := hrel
    have hbw : Below w.heap.size w wr := HBW.out.trans (hb.out.mono HBW.out.size)
    have hrow := (hb.out.block _ (lt_row HB1.out)).trans HB1.out
    have hrow2 := (hb.out.block _ (lt_row HB2.out)).trans HB2.out
    have z3 : wr.cell? ⟨w.heap.size, 3, none⟩ = some (.slice a3 l3 c3) := by rw [cell_of_row wr _ 3 _ _ _ hrow]; rfl
    have y3 : wr.cell? ⟨w.heap.size + 1, 3, none⟩ = some (.slice b3 l3 d3) := by rw [cell_of_row wr _ 3 _ _ _ hrow2]; rfl
    clear hrow hrow2
    by_cases hjl : j < l3
    · obtain ⟨t, ht⟩ : ∃ t, ES[j]? = some t := ⟨_, List.getElem?_eq_getElem (by rw [HL.out.1]; exact hjl)⟩
      obtain ⟨u, hu⟩ : ∃ t, FS[j]? = some t := ⟨_, List.getElem?_eq_getElem (by rw [HL.out.2]; exact hjl)⟩
      obtain ⟨b, o, vs, rfl, hvl, hcell, hre⟩ := HE.out j t ht
      obtain ⟨b', o', vs', rfl, hvl', hcell', hre'⟩ := GE.out j u hu
      obtain ⟨y0, y1, y2, ya3, yl3, yc3, rfl⟩ := PatR.shape _ _ _ _ hre
      obtain ⟨v0, v1, v2, va3, vl3, vc3, rfl⟩ := PatR.shape _ _ _ _ hre'
      have f0 : wr.cell? ⟨b, o + j * 4, none⟩ = some _ := cell_later hbw (hcell 0 _ rfl)
      have f1 : wr.cell? ⟨b, o + j * 4 + 1, none⟩ = some _ := cell_later hbw (hcell 1 _ rfl)
      have f2 : wr.cell? ⟨b, o + j * 4 + 2, none⟩ = some _ := cell_later hbw (hcell 2 _ rfl)
      have f3 : wr.cell? ⟨b, o + j * 4 + 3, none⟩ = some _ := cell_later hbw (hcell 3 _ rfl)
      have g0 : wr.cell? ⟨b', o' + j * 4, none⟩ = some _ := cell_later hbw (hcell' 0 _ rfl)
      have g1 : wr.cell? ⟨b', o' + j * 4 + 1, none⟩ = some _ := cell_later hbw (hcell' 1 _ rfl)
      have g2 : wr.cell? ⟨b', o' + j * 4 + 2, none⟩ = some _ := cell_later hbw (hcell' 2 _ rfl)
      have g3 : wr.cell? ⟨b', o' + j * 4 + 3, none⟩ = some _ := cell_later hbw (hcell' 3 _ rfl)
      have HC : Hid (∀ V : World, Below wr.heap.size wr V → _) := fun V hV => HI.out _ _ t u V (PatR.lasts d _ _ _ _ (PatR.lasts d _ _ _ _ hre hbw) hV) (PatR.lasts d _ _ _ _ (PatR.lasts d _ _ _ _ hre' hbw) hV) (Nat.le_trans (szRow_mem ht) HZE.out.1) (Nat.le_trans (szRow_mem hu) HZE.out.2)
      have hjl' : (j : Int) < (l3 : Int) := by omega
      have hn0 := After.some wr
      have rz := After.cell z3
      have ry := After.cell y3
      have p0 := After.cell f0
      have p1 := After.cell f1
      have p2 := After.cell f2
      have p3 := After.cell f3
      have q0 := After.cell g0
      have q1 := After.cell g1
      have q2 := After.cell g2
      have q3 := After.cell g3
      clear hcell hcell' hre hre' hvl hvl' hbw
      by_cases htu : t = u
      · have HS2 : Hid (ES.take (j + 1) = FS.take (j + 1)) := take_sameW ht hu HS.out htu
        rw [eqw_yes htu] at HC
        clear ht hu htu HS
        go_wp2_with fail
        refine wp_region_after (by kernel_rfl) (by kernel_rfl) ?_
        repeat (go_big_quiet_step ((go_at_call 23; exact calls_after (HC.out _ (After.bel _)))))
        refine wpQuiet_nil ?_
        rintro _ ⟨nq, rfl⟩
        have hb2 : Hid (Below W.heap.size W nq.now) := hb.out.trans (nq.bel.mono hb.out.size)
        clear hb f0 f1 f2 f3 g0 g1 g2 g3 p0 p1 p2 p3 q0 q1 q2 q3 z3 y3 rz ry
        go_wp2_with fail
        go_roundw
        case rel => exact ⟨j + 1, by omega, by go_num, hb2, HS2⟩
        case measure => simp [intOf]; omega
      · have hB : B = false := HBN.out (HNE.out (unlike_atW ht hu htu))
        rw [eqw_no htu] at HC
        clear ht hu htu HS
        go_wp2_with fail
        refine wp_region_after (by kernel_rfl) (by kernel_rfl) ?_
        repeat (go_big_quiet_step ((go_at_call 23; exact calls_after (HC.out _ (After.bel _)))))
        refine wpQuiet_nil ?_
        rintro _ ⟨nq, rfl⟩
        have hb2 : Below w.heap.size w nq.now := HBW.out.trans ((hb.out.trans (nq.bel.mono hb.out.size)).mono HBW.out.size)
        clear hb f0 f1 f2 f3 g0 g1 g2 g3 p0 p1 p2 p3 q0 q1 q2 q3 z3 y3 rz ry
        go_wp2_with fail
        go_ret
        exact ⟨by rw [hB]; rfl, hb2⟩
    · obtain rfl : j = l3 := by omega
      have hB : B = true := HBY.out (HEQ.out _ (Nat.le_refl _) HS.out)
      clear HS
      go_wp2_with fail
      go_ret
      exact ⟨by rw [hB]; rfl, hbw⟩

theorem specSamePat_any : ∀ d, SpC d := by
  intro d
  induction d with
  | zero => intro vs us a b w h; exact h.elim
  | succ d ih => exact specSamePat_of d ih

set_option maxRecDepth 100000 in
set_option maxHeartbeats 4000000 in
theorem specSameFn_any (vs us : List Value) (x y : DFn) (w : World) (hr : FnR w vs x) (hs : FnR w us y) (hz : szFnD x ≤ 1048576) (hy : szFnD y ≤ 1048576) :
    Calls Try.prog 22 #[.agg vs.toArray, .agg us.toArray] w fun e w' => e = .returned (.bool (eqw x y)) ∧ Below w.heap.size w w' := by
  obtain ⟨ve, rfl, h1⟩ := hr
  obtain ⟨ue, rfl, g1⟩ := hs
  have hz' : x.Name.size + szRow szInsD x.Ins ≤ 1048576 := hz
  have hy' : y.Name.size + szRow szInsD y.Ins ≤ 1048576 := hy
  obtain ⟨a3, c3, rfl⟩ := h1.slice
  obtain ⟨b3, d3, rfl⟩ := g1.slice
  have e1 : x.Ins.length ≤ szRow szInsD x.Ins := Nat.le_add_right _ _
  have e3 : y.Ins.length ≤ szRow szInsD y.Ins := Nat.le_add_right _ _
  by_cases h : x.Name = y.Name ∧ x.Args = y.Args ∧ x.Slots = y.Slots ∧ x.Ins.length = y.Ins.length
  case neg =>
    refine (specSameFn_no x.Name x.Args x.Slots y.Name y.Args y.Slots a3 _ c3 b3 _ d3 w (by omega) (by omega) h).mono ?_
    rintro e w' ⟨rfl, hb⟩
    have : ¬ x = y := fun e => h (by subst e; exact ⟨rfl, rfl, rfl, rfl⟩)
    exact ⟨by rw [eqw_no this], hb⟩
  obtain ⟨k0, k1, k2, k3⟩ := h
  have HEQ : Hid (∀ j, x.Ins.length ≤ j → x.Ins.take j = y.Ins.take j → x = y) := fun j hj h3 => by
    rw [List.take_of_length_le hj, List.take_of_length_le (by omega)] at h3
    exact DFn.ext' k0 k1 k2 h3
  have HNE : Hid (¬ x.Ins = y.Ins → ¬ x = y) := fun h e => h (by rw [e])
  rw [← k0, ← k1, ← k2]
  obtain ⟨B, hB⟩ : ∃ B, eqw x y = B := ⟨_, rfl⟩
  have HBY : Hid (x = y → B = true) := fun h => by rw [← hB]; exact eqw_yes h
  have HBN : Hid (¬ x = y → B = false) := fun h => by rw [← hB]; exact eqw_no h
  rw [hB]
  obtain ⟨XY, hXY⟩ : ∃ F : Prop, (x = y) = F := ⟨_, rfl⟩
  rw [hXY] at HBY HBN
  simp only [hXY] at HEQ HNE
  clear hB hXY k0 k1 k2
  obtain ⟨ES, hES⟩ : ∃ l, x.Ins = l := ⟨_, rfl⟩
  obtain ⟨FS, hFS⟩ : ∃ l, y.Ins = l := ⟨_, rfl⟩
  obtain ⟨K, hK⟩ : ∃ K, x.Name = K := ⟨_, rfl⟩
  obtain ⟨N, hN⟩ : ∃ N, x.Args = N := ⟨_, rfl⟩
  obtain ⟨S, hS⟩ : ∃ S, x.Slots = S := ⟨_, rfl⟩
  rw [hES, hFS] at HEQ HNE k3
  rw [hES] at h1 e1 hz'
  rw [hFS] at g1 e3 hy'
  rw [hK, hN, hS, hES, hFS]
  have hl3 : ES.length ≤ 1048576 := by omega
  clear hK hN hS hES hFS hz hz' hy hy' e1 e3
  obtain ⟨l3, hl⟩ : ∃ l, ES.length = l := ⟨_, rfl⟩
  have HL : Hid (ES.length = l3 ∧ FS.length = l3) := ⟨hl, by omega⟩
  have hl' : FS.length = l3 := by omega
  rw [hl] at HEQ hl3 h1 ⊢
  rw [hl'] at g1 ⊢
  clear hl hl' k3
  have HE : Hid (RowOf 4 InsR w (.slice a3 l3 c3) ES) := h1
  have GE : Hid (RowOf 4 InsR w (.slice b3 l3 d3) FS) := g1
  clear h1 g1
  obtain ⟨W, hW⟩ : ∃ W, W = (w.alloc (.cells #[.string K, .int .i64 N, .int .i64 S, .slice a3 l3 c3] 56)).alloc (.cells #[.string K, .int .i64 N, .int .i64 S, .slice b3 l3 d3] 56) := ⟨_, rfl⟩
  have hA : Below w.heap.size w W := by rw [hW]; exact ((Below.refl _ _).alloc (Nat.le_refl _) _).alloc (by simp) _
  have HB1 : Hid (W.heap[w.heap.size]? = some (.cells #[.string K, .int .i64 N, .int .i64 S, .slice a3 l3 c3] 56 (0, 0))) := by rw [hW]; show _ = _; rw [Below.heap_alloc _ _ _ (by simp)]; exact heap_alloc_new w _
  have HB2 : Hid (W.heap[w.heap.size + 1]? = some (.cells #[.string K, .int .i64 N, .int .i64 S, .slice b3 l3 d3] 56 (0, 0))) := by rw [hW]; show _ = _; have := heap_alloc_new (w.alloc (.cells #[.string K, .int .i64 N, .int .i64 S, .slice a3 l3 c3] 56)) (.cells #[.string K, .int .i64 N, .int .i64 S, .slice b3 l3 d3] 56); simpa using this
  have HBW : Hid (Below w.heap.size w W) := hA
  have HWS : Hid (W = _) := hW
  clear hW hA
  go_enter Try.func22, Try.ntmps22
  go_wp2_with fail
  rw [← HWS.out]
  clear HWS
  go_loopw [5] (fun i wr => ∃ (j : Nat), j ≤ l3 ∧ i = .int .i64 j ∧ Hid (Below W.heap.size W wr) ∧ Hid (ES.take j = FS.take j)) (fun i _ => l3 - (intOf i).toNat)
  case atStart => exact ⟨0, Nat.zero_le _, rfl, Below.refl _ _, rfl⟩
  case round =>
    obtain ⟨j, hj, rfl, hb, HS⟩ := hrel
    have hbw : Below w.heap.size w wr := HBW.out.trans (hb.out.mono HBW.out.size)
    have hrow := (hb.out.block _ (lt_row HB1.out)).trans HB1.out
    have hrow2 := (hb.out.block _ (lt_row HB2.out)).trans HB2.out
    have z3 : wr.cell? ⟨w.heap.size, 3, none⟩ = some (.slice a3 l3 c3) := by rw [cell_of_row wr _ 3 _ _ _ hrow]; rfl
    have y3 : wr.cell? ⟨w.heap.size + 1, 3, none⟩ = some (.slice b3 l3 d3) := by rw [cell_of_row wr _ 3 _ _ _ hrow2]; rfl
    clear hrow hrow2
    by_cases hjl : j < l3
    · obtain ⟨t, ht⟩ : ∃ t, ES[j]? = some t := ⟨_, List.getElem?_eq_getElem (by rw [HL.out.1]; exact hjl)⟩
      obtain ⟨u, hu⟩ : ∃ t, FS[j]? = some t := ⟨_, List.getElem?_eq_getElem (by rw [HL.out.2]; exact hjl)⟩
      obtain ⟨t0, t1, t2, t4⟩ := t
      obtain ⟨u0, u1, u2, u4⟩ := u
      have HE2 := HE.out
      have GE2 := GE.out
      rw [← HL.out.1] at HE2
      rw [← HL.out.2] at GE2
      obtain ⟨b, o, rfl, f0, f1, f2, f3⟩ := Ins_at HE2 j _ ht
      obtain ⟨b', o', rfl, g0, g1, g2, g3⟩ := Ins_at GE2 j _ hu
      have f0 := cell_later hbw f0
      have f1 := cell_later hbw f1
      have f2 := cell_later hbw f2
      have f3 := cell_later hbw f3
      have g0 := cell_later hbw g0
      have g1 := cell_later hbw g1
      have g2 := cell_later hbw g2
      have g3 := cell_later hbw g3
      simp only [] at f0 f1 f2 f3 g0 g1 g2 g3
      have hjl' : (j : Int) < (l3 : Int) := by omega
      clear HE2 GE2
      by_cases htu : t0 = u0 ∧ t1 = u1 ∧ t2 = u2 ∧ t4 = u4
      · obtain ⟨rfl, rfl, rfl, rfl⟩ := htu
        have HS2 : Hid (ES.take (j + 1) = FS.take (j + 1)) := take_sameW ht hu HS.out rfl
        clear ht hu HS
        have HX : Hid (Below W.heap.size W wr.drew) := hb.out.drew
        have HXW : Hid (Below w.heap.size w wr.drew) := hbw.drew
        clear hb hbw
        go_wp2_with fail
        go_region_with (fail)
        all_goals
          go_wp2_with fail
          go_roundw
          case rel => exact ⟨j + 1, by omega, by go_num, HX, HS2⟩
          case measure => simp [intOf]; omega
      · have hB : B = false := HBN.out (HNE.out (unlike_atW ht hu (fun e => htu (by injection e with a1 a2 a3 a4; exact ⟨a1, a2, a3, a4⟩))))
        clear ht hu HS
        have HXW : Hid (Below w.heap.size w wr.drew) := hbw.drew
        clear hb hbw
        by_cases h0 : t0 = u0
        · subst h0
          by_cases h1 : t1 = u1
          · subst h1
            by_cases h2 : t2 = u2
            · subst h2
              have h4 : ¬ t4 = u4 := fun e => htu ⟨rfl, rfl, rfl, e⟩
              clear htu
              go_wp2_with fail
              go_region_with (fail)
              all_goals
                go_wp2_with fail
                go_ret
                exact ⟨by rw [hB]; rfl, HXW.out⟩
            · have h2' : ¬ t2.toList = u2.toList := fun e => h2 (str_same0 e)
              clear htu
              go_wp2_with fail
              go_region_with (fail)
              all_goals
                go_wp2_with fail
                go_ret
                exact ⟨by rw [hB]; rfl, HXW.out⟩
          · skip
            clear htu
            go_wp2_with fail
            go_region_with (fail)
            all_goals
              go_wp2_with fail
              go_ret
              exact ⟨by rw [hB]; rfl, HXW.out⟩
        · skip
          clear htu
          go_wp2_with fail
          go_region_with (fail)
          all_goals
            go_wp2_with fail
            go_ret
            exact ⟨by rw [hB]; rfl, HXW.out⟩
    · obtain rfl : j = l3 := by omega
      have hB : B = true := HBY.out (HEQ.out _ (Nat.le_refl _) HS.out)
      clear HS
      go_wp2_with fail
      go_ret
      exact ⟨by rw [hB]; rfl, hbw⟩

end Go.Proofs.Ytahmbnokjfkfiaa
