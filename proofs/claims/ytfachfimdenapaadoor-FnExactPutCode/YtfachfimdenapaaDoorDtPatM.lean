/- A struct of the laws as data: Pat; the law's own measure, copy and comparison of it; how it is read. -/
import Derived.Test.YtfachfimdenapaaDoorTmM
import Derived.Test.YtfachfimdenapaaDoorXm2M
import Derived.Test.YtfachfimdenapaaDoorRowPatM
namespace Go.Proofs.YtfachfimdenapaaDoor
open Go.RowKit Go.ChangeShapes Go.WideShapes Go.Joins Go.Deep
set_option linter.unusedVariables false

def PatR : (d : Nat) → World → List Value → Tm d → Prop
  | 0, _, _, _ => False
  | d + 1, w, vs, x => ∃ v3, vs = [.int .i64 x.K, .int .i64 x.N, .string x.S, v3] ∧ RowOf 4 (PatR d) w v3 x.L

def PatO : (d : Nat) → World → List Value → Tm d → List Nat → Prop
  | 0, _, _, _, _ => False
  | d + 1, w, vs, x, fp => ∃ v3 f0, vs = [.int .i64 x.K, .int .i64 x.N, .string x.S, v3] ∧ fp = f0 ∧ OwnRow 4 51 (PatO d) w v3 x.L f0

def WfPat : (d : Nat) → Tm d → Prop
  | 0, _ => False
  | d + 1, x => I64 x.K ∧ I64 x.N ∧ x.S.size ≤ maxLen ∧ WfRow (WfPat d) x.L

def szPatD : (d : Nat) → Tm d → Nat
  | 0, _ => 0
  | d + 1, x => x.S.size + (szRow (szPatD d) x.L)

theorem PatR.lasts : ∀ d, Lasts (PatR d) := by
  intro d
  induction d with
  | zero => exact fun _ _ _ _ h _ => h.elim
  | succ d ih =>
    rintro w w' vs x ⟨v3, rfl, h0⟩ hb
    exact ⟨v3, rfl, (h0.later ih hb)⟩

theorem PatO.lasts : ∀ d, LastsO (PatO d) := by
  intro d
  induction d with
  | zero => exact fun _ _ _ _ _ h _ => h.elim
  | succ d ih =>
    rintro w w' vs x fp ⟨v3, f0, rfl, rfl, h0⟩ hb
    exact ⟨v3, _, rfl, rfl, h0.frame ih fun j hj => hb j hj⟩

theorem PatO.reads : ∀ d, Reads (PatO d) (PatR d) := by
  intro d
  induction d with
  | zero => exact fun _ _ _ _ h => h.elim
  | succ d ih =>
    rintro w vs x fp ⟨v3, f0, rfl, rfl, h0⟩
    exact ⟨v3, rfl, (h0.rd ih)⟩

theorem PatR.shape (d : Nat) : ∀ w vs x, PatR d w vs x → ShPat vs := by
  cases d with
  | zero => exact fun _ _ _ h => h.elim
  | succ d =>
    rintro w vs x ⟨v3, rfl, h0⟩
    obtain ⟨q0a3, q0l3, q0c3, rfl⟩ := h0.sl
    exact ⟨_, _, _, _, _, _, rfl⟩

theorem PatO.shape (d : Nat) : ∀ w vs x fp, PatO d w vs x fp → ShPat vs := fun w vs x fp h => PatR.shape d w vs x (PatO.reads d w vs x fp h)

set_option maxHeartbeats 4000000 in
theorem szPat_any : ∀ d, SzEl 32 (PatR d) (WfPat d) (szPatD d) := by
  intro d
  induction d with
  | zero => intro vs x left w h; exact h.elim
  | succ d ih =>
    rintro vs x left w ⟨v3, rfl, h0⟩ ⟨wK, wN, wS, wE⟩ hl0 hm
    obtain ⟨a3, l3, c3, rfl⟩ := h0.sl
    have hsS : x.S.size ≤ 9223372036854775807 := by unfold maxLen at wS; omega
    obtain ⟨W, hW⟩ : ∃ W, W = w.alloc (Obj.cells #[.int .i64 x.K, .int .i64 x.N, .string x.S, .slice a3 l3 c3] 68) := ⟨_, rfl⟩
    have hA : Below w.heap.size w W := by rw [hW]; exact (Below.refl _ _).alloc (Nat.le_refl _) _
    have hWc : W.heap[w.heap.size]? = some (Obj.cells #[.int .i64 x.K, .int .i64 x.N, .string x.S, .slice a3 l3 c3] 68 (0, 0)) := by rw [hW]; exact heap_alloc_new w _
    obtain ⟨A3, hA3⟩ : ∃ A, szRow (szPatD d) x.L = A := ⟨_, rfl⟩
    have e0 : szPatD (d + 1) x = x.S.size + (A3) := by rw [← hA3]; rfl
    rw [e0]
    obtain ⟨TL, hTL⟩ : ∃ L, lft left (x.S.size + (A3)) = L := ⟨_, rfl⟩
    rw [hTL]
    have H3 : Hid (∀ V : World, Below w.heap.size w V → ∀ l : Int, 0 ≤ l → l ≤ 1048576 → _) := fun V hV l p1 p2 => szPatS_of _ _ _ (PatR.lasts d) (PatR.shape d) ih (.slice a3 l3 c3) x.L l V (h0.later (PatR.lasts d) hV) wE p1 p2
    rw [hA3] at H3
    have HW : Hid (W = _) := hW
    have HT0 : Hid (TL = lft left (x.S.size + (A3))) := hTL.symm
    have HB0 : Hid (Below w.heap.size w W ∧ W.heap[w.heap.size]? = some (Obj.cells #[.int .i64 x.K, .int .i64 x.N, .string x.S, .slice a3 l3 c3] 68 (0, 0))) := ⟨hA, hWc⟩
    clear e0 hTL hW hA hWc hA3 h0 wE
    by_cases hlt2 : left < (x.S.size : Int)
    · have HF : Hid ((-1 : Int) = TL) := by show _ = _; rw [HT0.out]; unfold lft; rw [if_neg (by omega)]
      go_enter Tryd.func32, Tryd.ntmps32
      go_wp2
      go_ret
      exact ⟨tret1 HF.out, (by have := HB0.out.1; rw [HW.out] at this; exact this)⟩
    · have HT3 : Hid (TL = lft (left - (x.S.size : Int)) (A3)) := by
        show _ = _
        rw [HT0.out]
        unfold lft
        by_cases h : ((A3 : Nat) : Int) ≤ (left - (x.S.size : Int))
        · rw [if_pos h, if_pos (by omega)]; omega
        · rw [if_neg h, if_neg (by omega)]
      have hC := H3.out W HB0.out.1 (left - (x.S.size : Int)) (by omega) (by omega)
      obtain ⟨y3, hy3⟩ : ∃ y, lft (left - (x.S.size : Int)) A3 = y := ⟨_, rfl⟩
      have HL3 : Hid (y3 < 0 → y3 = -1) := fun h => by rw [← hy3] at h ⊢; exact lft_neg _ _ h
      have HM3 : Hid (TL = y3) := HT3.out.trans hy3
      rw [hy3] at hC
      clear hy3
      rw [HW.out] at hC
      go_enter Tryd.func32, Tryd.ntmps32
      go_wp2_with fail
      refine hC.mono ?_
      clear hC
      rintro e w3 ⟨rfl, hb3⟩
      rw [← HW.out] at hb3
      have HB4 : Hid (Below w.heap.size w w3 ∧ w3.heap[w.heap.size]? = some (Obj.cells #[.int .i64 x.K, .int .i64 x.N, .string x.S, .slice a3 l3 c3] 68 (0, 0))) := ⟨HB0.out.1.trans (hb3.mono HB0.out.1.size), (hb3.block _ (lt_row HB0.out.2)).trans HB0.out.2⟩
      clear hb3
      by_cases hneg : y3 < 0
      · have HF : Hid ((-1 : Int) = TL) := by show _ = _; rw [HM3.out]; exact (HL3.out (by omega)).symm
        go_wp2
        go_ret
        exact ⟨tret1 HF.out, HB4.out.1⟩
      · have HF : Hid (y3 = TL) := HM3.out.symm
        go_wp2
        go_ret
        exact ⟨tret1 HF.out, HB4.out.1⟩

theorem szPatS_any (d : Nat) : SzLs 14 4 (PatR d) (WfPat d) (szPatD d) := szPatS_of _ _ _ (PatR.lasts d) (PatR.shape d) (szPat_any d)

set_option maxHeartbeats 4000000 in
theorem toPat_any : ∀ d, ToEl 36 (PatR d) (PatO d) (WfPat d) (szPatD d) := by
  intro d
  induction d with
  | zero => intro vs x w h; exact h.elim
  | succ d ih =>
    rintro vs x w ⟨v3, rfl, h0⟩ ⟨wK, wN, wS, wE⟩ hz
    have hz' : x.S.size + (szRow (szPatD d) x.L) ≤ 1048576 := hz
    obtain ⟨a3, l3, c3, rfl⟩ := h0.sl
    obtain ⟨W, hW⟩ : ∃ W, W = ((w.alloc (Obj.cells #[.int .i64 x.K, .int .i64 x.N, .string x.S, .slice a3 l3 c3] 68)).alloc (.cells #[.int .i64 0, .int .i64 0, .string ⟨#[]⟩, .slice none 0 0] 51)).alloc (.cells #[.int .i64 x.K, .int .i64 x.N, .string x.S, .slice none 0 0] 51) := ⟨_, rfl⟩
    obtain ⟨nA, nB, nC⟩ := heap_three w (Obj.cells #[.int .i64 x.K, .int .i64 x.N, .string x.S, .slice a3 l3 c3] 68) (.cells #[.int .i64 0, .int .i64 0, .string ⟨#[]⟩, .slice none 0 0] 51) (.cells #[.int .i64 x.K, .int .i64 x.N, .string x.S, .slice none 0 0] 51)
    rw [← hW] at nA nB nC
    have hWb : Below w.heap.size w W := by rw [hW]; exact (((Below.refl _ _).alloc (Nat.le_refl _) _).alloc (by simp) _).alloc (by simp; omega) _
    have hWs : W.heap.size = w.heap.size + 1 + 1 + 1 := by rw [hW]; simp
    have H3 : Hid (∀ V : World, Below w.heap.size w V → _) := fun V hV => toPatS_of _ _ _ _ (PatR.lasts d) (PatO.lasts d) (PatR.shape d) (PatO.shape d) ih (.slice a3 l3 c3) x.L V (h0.later (PatR.lasts d) hV) wE (by omega)
    have HW : Hid (W = _) := hW
    have HBW : Hid (Below w.heap.size w W) := hWb
    have HN : Hid (_ ∧ _ ∧ _) := ⟨nA, nB, nC⟩
    clear hW nA nB nC hWb hz hz' h0 wE
    have hC := H3.out W HBW.out
    rw [HW.out] at hC
    go_enter Tryd.func36, Tryd.ntmps36
    go_wp2_with fail
    refine hC.mono ?_
    clear hC
    rintro e w3 ⟨ya3, yl3, yc3, fp3, rfl, hown3, hfr3, hb3⟩
    rw [← HW.out] at hfr3 hb3
    obtain ⟨nA, nB, nC⟩ := HN.out
    have zz3 := hb3.size
    have nA3 := (hb3.block _ (lt_row nA)).trans nA
    have nB3 := (hb3.block _ (lt_row nB)).trans nB
    have nC3 := (hb3.block _ (lt_row nC)).trans nC
    have HR3 : Hid (fp3.Nodup ∧ ∀ g ∈ fp3, W.heap.size ≤ g ∧ g < w3.heap.size) := ⟨hfr3.1, hfr3.2⟩
    have HFIN : Hid (∀ Z, Kept (w.heap.size + 1) (w.heap.size + 1 + 1 + 1) w3 Z → PatO (d + 1) Z [.int .i64 x.K, .int .i64 x.N, .string x.S, .slice ya3 yl3 yc3] x (fp3) ∧ Fresh w.heap.size Z (fp3) ∧ Below w.heap.size w Z) := fun Z hZ => by
      have hzZ := hZ.size
      have hbw : Below w.heap.size w w3 := HBW.out.trans (hb3.mono HBW.out.size)
      have hwz := hbw.size
      have r3 := HR3.out
      refine ⟨⟨_, fp3, rfl, rfl, hown3.frame (PatO.lasts d) fun g hg => hZ.block g (r3.2 g hg).2 (.inr (by have := (r3.2 g hg).1; omega))⟩, ⟨?_, fun g hg => ?_⟩, ?_⟩
      · exact r3.1
      · have := r3.2 g hg; omega
      · exact hbw.trans (hZ.below (by omega) hbw.size)
    have g0 : w3.cell? ⟨w.heap.size + 1 + 1, 0, none⟩ = some (.int .i64 x.K) := by rw [cell_of_row w3 _ 0 _ _ _ nC3]; rfl
    have z0 : w3.frozen? ⟨w.heap.size + 1 + 1, 0, none⟩ = false := frozen_of_row w3 _ _ _ _ nC3
    have b0 : w3.cell? ⟨w.heap.size + 1, 0, none⟩ = some (.int .i64 0) := by rw [cell_of_row w3 _ 0 _ _ _ nB3]; rfl
    have u0 : w3.frozen? ⟨w.heap.size + 1, 0, none⟩ = false := frozen_of_row w3 _ _ _ _ nB3
    have g1 : w3.cell? ⟨w.heap.size + 1 + 1, 1, none⟩ = some (.int .i64 x.N) := by rw [cell_of_row w3 _ 1 _ _ _ nC3]; rfl
    have z1 : w3.frozen? ⟨w.heap.size + 1 + 1, 1, none⟩ = false := frozen_of_row w3 _ _ _ _ nC3
    have b1 : w3.cell? ⟨w.heap.size + 1, 1, none⟩ = some (.int .i64 0) := by rw [cell_of_row w3 _ 1 _ _ _ nB3]; rfl
    have u1 : w3.frozen? ⟨w.heap.size + 1, 1, none⟩ = false := frozen_of_row w3 _ _ _ _ nB3
    have g2 : w3.cell? ⟨w.heap.size + 1 + 1, 2, none⟩ = some (.string x.S) := by rw [cell_of_row w3 _ 2 _ _ _ nC3]; rfl
    have z2 : w3.frozen? ⟨w.heap.size + 1 + 1, 2, none⟩ = false := frozen_of_row w3 _ _ _ _ nC3
    have b2 : w3.cell? ⟨w.heap.size + 1, 2, none⟩ = some (.string ⟨#[]⟩) := by rw [cell_of_row w3 _ 2 _ _ _ nB3]; rfl
    have u2 : w3.frozen? ⟨w.heap.size + 1, 2, none⟩ = false := frozen_of_row w3 _ _ _ _ nB3
    have g3 : w3.cell? ⟨w.heap.size + 1 + 1, 3, none⟩ = some (.slice none 0 0) := by rw [cell_of_row w3 _ 3 _ _ _ nC3]; rfl
    have z3 : w3.frozen? ⟨w.heap.size + 1 + 1, 3, none⟩ = false := frozen_of_row w3 _ _ _ _ nC3
    have b3 : w3.cell? ⟨w.heap.size + 1, 3, none⟩ = some (.slice none 0 0) := by rw [cell_of_row w3 _ 3 _ _ _ nB3]; rfl
    have u3 : w3.frozen? ⟨w.heap.size + 1, 3, none⟩ = false := frozen_of_row w3 _ _ _ _ nB3
    clear nA3 nB3 nC3 nA nB nC hown3 hfr3 hb3 HN
    go_wp2_with fail
    refine bodyPost_ret (v := .agg #[.int .i64 x.K, .int .i64 x.N, .string x.S, .slice ya3 yl3 yc3]) (by first | (simp [results, Tryd.results36, go_sem, b0, b1, b2, b3]; done) | (simp [results, Tryd.results36, go_sem, b0, b1, b2, b3]; rfl)) rfl ⟨[.int .i64 x.K, .int .i64 x.N, .string x.S, .slice ya3 yl3 yc3], fp3, rfl, HFIN.out _ ?_⟩
    repeat (first | with_reducible exact Kept.refl _ _ _ | with_reducible refine Kept.drew ?_ | (with_reducible refine Kept.set ?_ ?_; omega))

theorem toPatS_any (d : Nat) : ToLs 21 4 51 (PatR d) (PatO d) (WfPat d) (szPatD d) := toPatS_of _ _ _ _ (PatR.lasts d) (PatO.lasts d) (PatR.shape d) (PatO.shape d) (toPat_any d)

set_option maxHeartbeats 4000000 in
theorem eqPat_any : ∀ d, EqEl 43 (PatR d) (WfPat d) := by
  intro d
  induction d with
  | zero => intro vs1 vs2 x w h; exact h.elim
  | succ d ih =>
    rintro vs1 vs2 x w ⟨v3, rfl, h0⟩ ⟨v3z, rfl, k0⟩ ⟨wK, wN, wS, wE⟩
    obtain ⟨a3, l3, c3, rfl⟩ := h0.sl
    obtain ⟨za3, zl3, zc3, rfl⟩ := k0.sl
    obtain ⟨W, hW⟩ : ∃ W, W = (w.alloc (Obj.cells #[.int .i64 x.K, .int .i64 x.N, .string x.S, .slice a3 l3 c3] 51)).alloc (Obj.cells #[.int .i64 x.K, .int .i64 x.N, .string x.S, .slice za3 zl3 zc3] 51) := ⟨_, rfl⟩
    have hA : Below w.heap.size w W := by rw [hW]; exact ((Below.refl _ _).alloc (Nat.le_refl _) _).alloc (by simp) _
    have n1 : W.heap[w.heap.size]? = some (Obj.cells #[.int .i64 x.K, .int .i64 x.N, .string x.S, .slice a3 l3 c3] 51 (0, 0)) := by rw [hW, Below.heap_alloc _ _ _ (by simp)]; exact heap_alloc_new w _
    have n2 : W.heap[w.heap.size + 1]? = some (Obj.cells #[.int .i64 x.K, .int .i64 x.N, .string x.S, .slice za3 zl3 zc3] 51 (0, 0)) := by rw [hW]; have := heap_alloc_new (w.alloc (Obj.cells #[.int .i64 x.K, .int .i64 x.N, .string x.S, .slice a3 l3 c3] 51)) (Obj.cells #[.int .i64 x.K, .int .i64 x.N, .string x.S, .slice za3 zl3 zc3] 51); simpa using this
    have H3 : Hid (∀ V : World, Below w.heap.size w V → _) := fun V hV => eqPatS_of _ _ (PatR.lasts d) (PatR.shape d) ih (.slice a3 l3 c3) (.slice za3 zl3 zc3) x.L V (h0.later (PatR.lasts d) hV) (k0.later (PatR.lasts d) hV) wE
    have HW : Hid (W = _) := hW
    have HN : Hid (Below w.heap.size w W ∧ _ ∧ _) := ⟨hA, n1, n2⟩
    clear n1 n2 h0 k0 wE
    clear hA
    have hC := H3.out W HN.out.1
    rw [hW] at hC
    clear hW
    go_enter Tryd.func43, Tryd.ntmps43
    go_wp2_with fail
    refine hC.mono ?_
    clear hC
    rintro e w3 ⟨rfl, hb3⟩
    rw [← HW.out] at hb3
    have HN3 : Hid (Below w.heap.size w w3 ∧ _ ∧ _) := ⟨HN.out.1.trans (hb3.mono HN.out.1.size), (hb3.block _ (lt_row HN.out.2.1)).trans HN.out.2.1, (hb3.block _ (lt_row HN.out.2.2)).trans HN.out.2.2⟩
    clear hb3
    go_wp2
    go_ret
    exact ⟨rfl, HN3.out.1⟩

theorem eqPatS_any (d : Nat) : EqLs 28 4 (PatR d) (WfPat d) := eqPatS_of _ _ (PatR.lasts d) (PatR.shape d) (eqPat_any d)

theorem Pat_at {d n c : Nat} {w : World} {a : Option Addr} {m : List (Tm (d + 1))} (h : RowOf 4 (PatR (d + 1)) w (.slice a n c) m) (i : Nat) (x : (Tm (d + 1))) (hx : m[i]? = some x) : ∃ (b o : Nat) (a3 : Option Addr) (c3 : Nat), a = some ⟨b, o, none⟩ ∧ w.cell? ⟨b, o + i * 4, none⟩ = some (.int .i64 x.K) ∧ w.cell? ⟨b, o + i * 4 + 1, none⟩ = some (.int .i64 x.N) ∧ w.cell? ⟨b, o + i * 4 + 2, none⟩ = some (.string x.S) ∧ w.cell? ⟨b, o + i * 4 + 3, none⟩ = some (.slice a3 x.L.length c3) ∧ RowOf 4 (PatR d) w (.slice a3 x.L.length c3) x.L := by
  obtain ⟨a', c', e, hel⟩ := h
  cases e
  obtain ⟨b, o, vs, h2, h3, h4, v3, rfl, g0⟩ := hel i x hx
  obtain ⟨a3, c3, rfl⟩ := g0.slice
  exact ⟨b, o, a3, c3, h2, h4 0 _ rfl, h4 1 _ rfl, h4 2 _ rfl, h4 3 _ rfl, g0⟩

theorem Tryd.cellsPat : Tryd.prog.cellsOf 68 = 4 := by kernel_rfl
theorem Tryd.cellsPats : Tryd.prog.cellsOf 23 = 1 := by kernel_rfl
section
variable {H : Type} {enc : TypeId × Value → H} {W : World} {base : Nat} {spare : Nat → Bool} {held : Bool}

set_option maxRecDepth 100000 in
theorem read_PatC : ∀ (m d : Nat), m ≤ d → ∀ (cs : List Value) (x : DataW H × List MemPlace), DataW.trod enc Tryd.prog W base spare held m 68 cs = some x → cs.length = 4 → ∃ f : Tm d, PatR d W cs f ∧ WfPat d f := by
  intro m
  induction m using Nat.strongRecOn with
  | ind m ih =>
  intro d hd cs x h hl
  obtain ⟨c0, c1, c2, c3, rfl⟩ : ∃ c0 c1 c2 c3, cs = [c0, c1, c2, c3] := by
    match cs, hl with
    | [c0, c1, c2, c3], _ => exact ⟨c0, c1, c2, c3, rfl⟩
  obtain ⟨xs, m, rfl, _, _, hxl, hf⟩ := DataW.trod_struct Tryd.underlying68 h
  have hxl' : xs.length = 4 := hxl
  have h0 : DataW.trod enc Tryd.prog W base spare held m 3 [c0] = xs[0]? := by have := hf 0 _ rfl; simpa [Tryd.cells3, Tryd.cells9, Tryd.cellsPats] using this
  have h1 : DataW.trod enc Tryd.prog W base spare held m 3 [c1] = xs[1]? := by have := hf 1 _ rfl; simpa [Tryd.cells3, Tryd.cells9, Tryd.cellsPats] using this
  have h2 : DataW.trod enc Tryd.prog W base spare held m 9 [c2] = xs[2]? := by have := hf 2 _ rfl; simpa [Tryd.cells3, Tryd.cells9, Tryd.cellsPats] using this
  have h3 : DataW.trod enc Tryd.prog W base spare held m 23 [c3] = xs[3]? := by have := hf 3 _ rfl; simpa [Tryd.cells3, Tryd.cells9, Tryd.cellsPats] using this
  rw [List.getElem?_eq_getElem (by omega)] at h0 h1 h2 h3
  obtain ⟨x0, e0, _, q0⟩ := DataW.trod_int Tryd.underlying3 h0
  obtain ⟨x1, e1, _, q1⟩ := DataW.trod_int Tryd.underlying3 h1
  obtain ⟨x2, e2, _, q2⟩ := DataW.trod_string Tryd.underlying9 h2
  simp only [List.cons.injEq, and_true] at e0 e1 e2
  subst e0 e1 e2
  obtain ⟨d, rfl⟩ : ∃ d', d = d' + 1 := ⟨d - 1, by omega⟩
  obtain ⟨x3, r3, q3⟩ := read_row (R := PatR d) (P := WfPat d) Tryd.underlying23 Tryd.cellsPat (by omega) (fun n hn cs x hx hl => ih n (by omega) d (by omega) cs x hx hl) h3
  exact ⟨((x0, x1, x2, x3) : Int × Int × ByteArray × List (Tm d)), ⟨_, rfl, r3⟩, bounds_i64 q0, bounds_i64 q1, q2, q3⟩

theorem read_Pats {m d : Nat} (hd : m ≤ d) {v : Value} {x : DataW H × List MemPlace} (h : DataW.trod enc Tryd.prog W base spare held m 23 [v] = some x) : ∃ l : List (Tm d), RowOf 4 (PatR d) W v l ∧ WfRow (WfPat d) l :=
  read_row (R := PatR d) (P := WfPat d) Tryd.underlying23 Tryd.cellsPat (by omega) (fun n hn cs x hx hl => read_PatC n d (by omega) cs x hx hl) h

set_option maxRecDepth 100000 in
theorem read_Pat {r : Reach} {b0 : Nat} {v : Value} {x : DataW H} {p : List MemPlace} (hv : Value.okWide Tryd.prog W r b0 68 v) (h : DataW.Trod enc Tryd.prog W base spare held 68 v x p) :
    ∃ M, ∀ d, M ≤ d → ∃ (vs : List Value) (e : Tm d), v = .agg vs.toArray ∧ PatR d W vs e ∧ WfPat d e := by
  obtain ⟨cs, rfl, hsz⟩ := okWide_struct Tryd.underlying68 hv
  obtain ⟨fuel, hf⟩ := h
  have hf' : DataW.trod enc Tryd.prog W base spare held fuel 68 cs.toList = some (x, p) := hf
  refine ⟨fuel, fun d hd => ?_⟩
  obtain ⟨e, h1, h2⟩ := read_PatC fuel d hd cs.toList _ hf' (by have := hsz.trans Tryd.cellsPat; simpa using this)
  exact ⟨cs.toList, e, by simp, h1, h2⟩
end

end Go.Proofs.YtfachfimdenapaaDoor
