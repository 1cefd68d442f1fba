/- Data of the later chapters: terms as parts of structs, lists of numbers; the law's own measure, copy and comparison of them. -/
import Derived.Test.YtkkdnkdkelligaaGreatDoorTmM
import Derived.Test.YtkkdnkdkelligaaGreatDoorOkM
import Derived.Test.YtkkdnkdkelligaaGreatDoorTReadM
import Derived.BigQuiet
namespace Go.Proofs.YtkkdnkdkelligaaGreatDoor
open Go.RowKit Go.ChangeShapes Go.WideShapes Go.Joins Go.Deep
set_option linter.unusedVariables false

theorem RowOf.sl {α : Type} {k : Nat} {R : World → List Value → α → Prop} {w : World} {v : Value} {xs : List α} (h : RowOf k R w v xs) : ∃ a l c, v = .slice a l c := by
  obtain ⟨a, c, e, _⟩ := h
  exact ⟨a, _, c, e⟩
theorem OwnRow.sl {α : Type} {k : Nat} {T : TypeId} {O : World → List Value → α → List Nat → Prop} {w : World} {v : Value} {xs : List α} {fp : List Nat} (h : OwnRow k T O w v xs fp) : ∃ a l c, v = .slice a l c := by
  rcases h with ⟨_, _, a, c, rfl⟩ | ⟨g, c, cur, fps, rfl, _⟩
  · exact ⟨_, _, _, rfl⟩
  · exact ⟨_, _, _, rfl⟩

theorem RdL.len1 {d : Nat} {w : World} {v : Value} {ts : List (Tm (d + 1))} (h : RdL (d + 1) w v ts) : ∃ a c, v = .slice a ts.length c := by
  obtain ⟨a, c, e, _⟩ := h
  exact ⟨a, c, e⟩

/-- A term as a part of something. -/
def TmR (d : Nat) (w : World) (vs : List Value) (t : Tm (d + 1)) : Prop := ∃ lv, vs = [.int .i64 t.K, .int .i64 t.N, .string t.S, lv] ∧ RdL d w lv t.L
def TmO (d : Nat) (w : World) (vs : List Value) (t : Tm (d + 1)) (fp : List Nat) : Prop := ∃ lv, vs = [.int .i64 t.K, .int .i64 t.N, .string t.S, lv] ∧ OwnL d w lv t.L fp
def WfTm (d : Nat) (t : Tm (d + 1)) : Prop := I64 t.K ∧ I64 t.N ∧ t.S.size ≤ maxLen ∧ WfL d t.L
def szTm (d : Nat) (t : Tm (d + 1)) : Nat := t.S.size + szL d t.L
def ShTerm (vs : List Value) : Prop := ∃ (i0 i1 : Int) (s2 : ByteArray) (a3 : Option Addr) (l3 c3 : Nat), vs = [.int .i64 i0, .int .i64 i1, .string s2, .slice a3 l3 c3]

theorem TmR.lasts (d : Nat) : Lasts (TmR d) := by
  rintro w w' vs b ⟨lv, rfl, h⟩ hb
  exact ⟨lv, rfl, h.later hb⟩
theorem TmO.lasts (d : Nat) : LastsO (TmO d) := by
  rintro w w' vs b fp ⟨lv, rfl, h⟩ hb
  exact ⟨lv, rfl, h.frame hb⟩
theorem TmO.reads (d : Nat) : Reads (TmO d) (TmR d) := by
  rintro w vs b fp ⟨lv, rfl, h⟩
  exact ⟨lv, rfl, h.rd⟩
theorem TmR.shape (d : Nat) : ∀ w vs b, TmR d w vs b → ShTerm vs := by
  rintro w vs b ⟨lv, rfl, h⟩
  obtain ⟨a, l, c, rfl⟩ := h.shape
  exact ⟨_, _, _, _, _, _, rfl⟩
theorem TmO.shape (d : Nat) : ∀ w vs b fp, TmO d w vs b fp → ShTerm vs := fun w vs b fp h => TmR.shape d w vs b (TmO.reads d w vs b fp h)

theorem szTm_any (d : Nat) : SzEl 40 (TmR d) (WfTm d) (szTm d) := by
  rintro vs x left w ⟨lv, rfl, h⟩ ⟨_, _, w3, w4⟩ h0 h1
  exact szTerm_of d (szTermS_any d) x.K x.N x.S lv x.L left w h w4 w3 h0 h1
theorem toTm_any (d : Nat) : ToEl 43 (TmR d) (TmO d) (WfTm d) (szTm d) := by
  rintro vs x w ⟨lv, rfl, h⟩ ⟨_, _, w3, w4⟩ hz
  have hz' : x.S.size + szL d x.L ≤ 1048576 := hz
  refine (toTerm_of d (toTermS_any d) x.K x.N x.S lv x.L w h w4 (by omega)).mono ?_
  rintro e w' ⟨a, l, c, fp, rfl, ho, hf, hb⟩
  exact ⟨[.int .i64 x.K, .int .i64 x.N, .string x.S, .slice a l c], fp, rfl, ⟨_, rfl, ho⟩, hf, hb⟩
theorem eqTm_any (d : Nat) : EqEl 46 (TmR d) (WfTm d) := by
  rintro vs1 vs2 x w ⟨lv, rfl, h⟩ ⟨lv', rfl, h'⟩ ⟨_, _, w3, w4⟩
  exact eqTerm_of d (eqTermS_any d) x.K x.N x.S lv lv' x.L w h h' w4

theorem OwnL.sl : ∀ {d : Nat} {w : World} {v : Value} {ts : List (Tm d)} {fp : List Nat}, OwnL d w v ts fp → ∃ a l c, v = .slice a l c := fun h => h.rd.shape

/-- Numbers. -/
def InR (w : World) (vs : List Value) (n : Int) : Prop := vs = [.int .i64 n]
def InO (w : World) (vs : List Value) (n : Int) (fp : List Nat) : Prop := vs = [.int .i64 n] ∧ fp = []
theorem InR.lasts : Lasts InR := fun _ _ _ _ h _ => h
theorem InO.lasts : LastsO InO := fun _ _ _ _ _ h _ => h
theorem InO.reads : Reads InO InR := fun _ _ _ _ h => h.1
def szI (n : Int) : Nat := 0

def TellI (w : World) (v : Value) (l : List Int) : Prop := ∃ a c, v = .slice a l.length c ∧ ∀ (i : Nat) (s : Int), l[i]? = some s → ∃ b o, a = some ⟨b, o, none⟩ ∧ w.cell? ⟨b, o + i, none⟩ = some (.int .i64 s)
theorem row_tellI {w : World} {v : Value} {l : List Int} (h : RowOf 1 InR w v l) : TellI w v l := by
  obtain ⟨a, c, rfl, h1⟩ := h
  refine ⟨a, c, rfl, fun i s hs => ?_⟩
  obtain ⟨b, o, vs, h2, h3, h4, rfl⟩ := h1 i s hs
  have := h4 0 _ rfl
  rw [Nat.mul_one, Nat.add_zero] at this
  exact ⟨b, o, h2, this⟩

theorem szI_sum (xs : List Int) : szRow szI xs = xs.length := by
  unfold szRow
  have : (xs.map szI).sum = 0 := by
    induction xs with
    | nil => rfl
    | cons x xs ih => simp [szI, ih]
  omega

theorem Tryz.infoInt : (Tryz.prog.info? 3).map (fun i => (i.zero, i.size, i.bytes)) = some (some (.int .i64 0), 1, 8) := by kernel_rfl

theorem lft_neg (l : Int) (n : Nat) (h : lft l n < 0) : lft l n = -1 := by
  unfold lft at h ⊢
  by_cases q : (n : Int) ≤ l
  · rw [if_pos q] at h; omega
  · rw [if_neg q]

theorem Tryz.cellsInts : Tryz.prog.cellsOf 109 = 1 := by kernel_rfl
theorem Tryz.cells4 : Tryz.prog.cellsOf 4 = 1 := by kernel_rfl

section
variable {H : Type} {enc : TypeId × Value → H} {W : World} {base : Nat} {spare : Nat → Bool} {held : Bool}

theorem read_ints {m : Nat} {v : Value} {x : DataW H × List MemPlace} (h : DataW.trod enc Tryz.prog W base spare held m 109 [v] = some x) : ∃ l : List Int, RowOf 1 InR W v l ∧ WfRow I64 l :=
  read_row (R := InR) (P := I64) Tryz.underlying109 Tryz.cells3 (by omega) (fun n hn cs x hx hl => by
    obtain ⟨c, rfl⟩ : ∃ c, cs = [c] := by
      match cs, hl with
      | [c], _ => exact ⟨c, rfl⟩
    obtain ⟨t, e, _, ht⟩ := DataW.trod_int Tryz.underlying3 hx
    simp only [List.cons.injEq, and_true] at e
    subst e
    exact ⟨t, rfl, bounds_i64 ht⟩) h

theorem read_tm {m d : Nat} (hd : m ≤ d) {cs : List Value} {x : DataW H × List MemPlace} (h : DataW.trod enc Tryz.prog W base spare held m 79 cs = some x) (hl : cs.length = 4) : ∃ t : Tm (d + 1), TmR d W cs t ∧ WfTm d t := by
  obtain ⟨c0, c1, c2, c3, rfl⟩ : ∃ c0 c1 c2 c3, cs = [c0, c1, c2, c3] := by
    match cs, hl with
    | [c0, c1, c2, c3], _ => exact ⟨c0, c1, c2, c3, rfl⟩
  obtain ⟨m', k, l, s, y, rfl, rfl, rfl, rfl, hk, hn, hs, h3⟩ := read_four h
  obtain ⟨ts, hT, wT⟩ := read_terms m' d (by omega) c3 y h3
  exact ⟨((k, l, s, ts) : Int × Int × ByteArray × List (Tm d)), ⟨_, rfl, hT⟩, hk, hn, hs, wT⟩
end

end Go.Proofs.YtkkdnkdkelligaaGreatDoor

/- A struct of the laws as data: Pat; the law's own measure, copy and comparison of it; how it is read. -/
namespace Go.Proofs.YtkkdnkdkelligaaGreatDoor
open Go.RowKit Go.ChangeShapes Go.WideShapes Go.Joins Go.Deep
set_option linter.unusedVariables false

def PatR : (d : Nat) → World → List Value → Tm d → Prop
  | 0, _, _, _ => False
  | d + 1, w, vs, x => ∃ v3, vs = [.int .i64 x.K, .int .i64 x.N, .string x.S, v3] ∧ RowOf 4 (PatR d) w v3 x.L

def PatO : (d : Nat) → World → List Value → Tm d → List Nat → Prop
  | 0, _, _, _, _ => False
  | d + 1, w, vs, x, fp => ∃ v3 f0, vs = [.int .i64 x.K, .int .i64 x.N, .string x.S, v3] ∧ fp = f0 ∧ OwnRow 4 117 (PatO d) w v3 x.L f0

def WfPat : (d : Nat) → Tm d → Prop
  | 0, _ => False
  | d + 1, x => I64 x.K ∧ I64 x.N ∧ x.S.size ≤ maxLen ∧ WfRow (WfPat d) x.L

def szPatD : (d : Nat) → Tm d → Nat
  | 0, _ => 0
  | d + 1, x => x.S.size + (szRow (szPatD d) x.L)

theorem PatR.lasts : ∀ d, Lasts (PatR d) := by
  intro d
  induction d with
  | zero => exact fun _ _ _ _ h _ => h.elim
  | succ d ih =>
    rintro w w' vs x ⟨v3, rfl, h0⟩ hb
    exact ⟨v3, rfl, (h0.later ih hb)⟩

theorem PatO.lasts : ∀ d, LastsO (PatO d) := by
  intro d
  induction d with
  | zero => exact fun _ _ _ _ _ h _ => h.elim
  | succ d ih =>
    rintro w w' vs x fp ⟨v3, f0, rfl, rfl, h0⟩ hb
    exact ⟨v3, _, rfl, rfl, h0.frame ih fun j hj => hb j hj⟩

theorem PatO.reads : ∀ d, Reads (PatO d) (PatR d) := by
  intro d
  induction d with
  | zero => exact fun _ _ _ _ h => h.elim
  | succ d ih =>
    rintro w vs x fp ⟨v3, f0, rfl, rfl, h0⟩
    exact ⟨v3, rfl, (h0.rd ih)⟩

theorem PatR.shape (d : Nat) : ∀ w vs x, PatR d w vs x → ShPat vs := by
  cases d with
  | zero => exact fun _ _ _ h => h.elim
  | succ d =>
    rintro w vs x ⟨v3, rfl, h0⟩
    obtain ⟨q0a3, q0l3, q0c3, rfl⟩ := h0.sl
    exact ⟨_, _, _, _, _, _, rfl⟩

theorem PatO.shape (d : Nat) : ∀ w vs x fp, PatO d w vs x fp → ShPat vs := fun w vs x fp h => PatR.shape d w vs x (PatO.reads d w vs x fp h)

set_option maxHeartbeats 4000000 in
theorem szPat_any : ∀ d, SzEl 54 (PatR d) (WfPat d) (szPatD d) := by
  intro d
  induction d with
  | zero => intro vs x left w h; exact h.elim
  | succ d ih =>
    rintro vs x left w ⟨v3, rfl, h0⟩ ⟨wK, wN, wS, wE⟩ hl0 hm
    obtain ⟨a3, l3, c3, rfl⟩ := h0.sl
    have hsS : x.S.size ≤ 9223372036854775807 := by unfold maxLen at wS; omega
    obtain ⟨W, hW⟩ : ∃ W, W = w.alloc (Obj.cells #[.int .i64 x.K, .int .i64 x.N, .string x.S, .slice a3 l3 c3] 104) := ⟨_, rfl⟩
    have hA : Below w.heap.size w W := by rw [hW]; exact (Below.refl _ _).alloc (Nat.le_refl _) _
    have hWc : W.heap[w.heap.size]? = some (Obj.cells #[.int .i64 x.K, .int .i64 x.N, .string x.S, .slice a3 l3 c3] 104 (0, 0)) := by rw [hW]; exact heap_alloc_new w _
    obtain ⟨A3, hA3⟩ : ∃ A, szRow (szPatD d) x.L = A := ⟨_, rfl⟩
    have e0 : szPatD (d + 1) x = x.S.size + (A3) := by rw [← hA3]; rfl
    rw [e0]
    obtain ⟨TL, hTL⟩ : ∃ L, lft left (x.S.size + (A3)) = L := ⟨_, rfl⟩
    rw [hTL]
    have H3 : Hid (∀ V : World, Below w.heap.size w V → ∀ l : Int, 0 ≤ l → l ≤ 1048576 → _) := fun V hV l p1 p2 => szPatS_of _ _ _ (PatR.lasts d) (PatR.shape d) ih (.slice a3 l3 c3) x.L l V (h0.later (PatR.lasts d) hV) wE p1 p2
    rw [hA3] at H3
    have HW : Hid (W = _) := hW
    have HT0 : Hid (TL = lft left (x.S.size + (A3))) := hTL.symm
    have HB0 : Hid (Below w.heap.size w W ∧ W.heap[w.heap.size]? = some (Obj.cells #[.int .i64 x.K, .int .i64 x.N, .string x.S, .slice a3 l3 c3] 104 (0, 0))) := ⟨hA, hWc⟩
    clear e0 hTL hW hA hWc hA3 h0 wE
    by_cases hlt2 : left < (x.S.size : Int)
    · have HF : Hid ((-1 : Int) = TL) := by show _ = _; rw [HT0.out]; unfold lft; rw [if_neg (by omega)]
      go_enter Tryz.func54, Tryz.ntmps54
      go_wp2
      go_ret
      exact ⟨tret1 HF.out, (by have := HB0.out.1; rw [HW.out] at this; exact this)⟩
    · have HT3 : Hid (TL = lft (left - (x.S.size : Int)) (A3)) := by
        show _ = _
        rw [HT0.out]
        unfold lft
        by_cases h : ((A3 : Nat) : Int) ≤ (left - (x.S.size : Int))
        · rw [if_pos h, if_pos (by omega)]; omega
        · rw [if_neg h, if_neg (by omega)]
      have hC := H3.out W HB0.out.1 (left - (x.S.size : Int)) (by omega) (by omega)
      obtain ⟨y3, hy3⟩ : ∃ y, lft (left - (x.S.size : Int)) A3 = y := ⟨_, rfl⟩
      have HL3 : Hid (y3 < 0 → y3 = -1) := fun h => by rw [← hy3] at h ⊢; exact lft_neg _ _ h
      have HM3 : Hid (TL = y3) := HT3.out.trans hy3
      rw [hy3] at hC
      clear hy3
      rw [HW.out] at hC
      go_enter Tryz.func54, Tryz.ntmps54
      go_wp2_with fail
      refine hC.mono ?_
      clear hC
      rintro e w3 ⟨rfl, hb3⟩
      rw [← HW.out] at hb3
      have HB4 : Hid (Below w.heap.size w w3 ∧ w3.heap[w.heap.size]? = some (Obj.cells #[.int .i64 x.K, .int .i64 x.N, .string x.S, .slice a3 l3 c3] 104 (0, 0))) := ⟨HB0.out.1.trans (hb3.mono HB0.out.1.size), (hb3.block _ (lt_row HB0.out.2)).trans HB0.out.2⟩
      clear hb3
      by_cases hneg : y3 < 0
      · have HF : Hid ((-1 : Int) = TL) := by show _ = _; rw [HM3.out]; exact (HL3.out (by omega)).symm
        go_wp2
        go_ret
        exact ⟨tret1 HF.out, HB4.out.1⟩
      · have HF : Hid (y3 = TL) := HM3.out.symm
        go_wp2
        go_ret
        exact ⟨tret1 HF.out, HB4.out.1⟩

theorem szPatS_any (d : Nat) : SzLs 23 4 (PatR d) (WfPat d) (szPatD d) := szPatS_of _ _ _ (PatR.lasts d) (PatR.shape d) (szPat_any d)

set_option maxHeartbeats 4000000 in
theorem toPat_any : ∀ d, ToEl 61 (PatR d) (PatO d) (WfPat d) (szPatD d) := by
  intro d
  induction d with
  | zero => intro vs x w h; exact h.elim
  | succ d ih =>
    rintro vs x w ⟨v3, rfl, h0⟩ ⟨wK, wN, wS, wE⟩ hz
    have hz' : x.S.size + (szRow (szPatD d) x.L) ≤ 1048576 := hz
    obtain ⟨a3, l3, c3, rfl⟩ := h0.sl
    obtain ⟨W, hW⟩ : ∃ W, W = ((w.alloc (Obj.cells #[.int .i64 x.K, .int .i64 x.N, .string x.S, .slice a3 l3 c3] 104)).alloc (.cells #[.int .i64 0, .int .i64 0, .string ⟨#[]⟩, .slice none 0 0] 117)).alloc (.cells #[.int .i64 x.K, .int .i64 x.N, .string x.S, .slice none 0 0] 117) := ⟨_, rfl⟩
    obtain ⟨nA, nB, nC⟩ := heap_three w (Obj.cells #[.int .i64 x.K, .int .i64 x.N, .string x.S, .slice a3 l3 c3] 104) (.cells #[.int .i64 0, .int .i64 0, .string ⟨#[]⟩, .slice none 0 0] 117) (.cells #[.int .i64 x.K, .int .i64 x.N, .string x.S, .slice none 0 0] 117)
    rw [← hW] at nA nB nC
    have hWb : Below w.heap.size w W := by rw [hW]; exact (((Below.refl _ _).alloc (Nat.le_refl _) _).alloc (by simp) _).alloc (by simp; omega) _
    have hWs : W.heap.size = w.heap.size + 1 + 1 + 1 := by rw [hW]; simp
    have H3 : Hid (∀ V : World, Below w.heap.size w V → _) := fun V hV => toPatS_of _ _ _ _ (PatR.lasts d) (PatO.lasts d) (PatR.shape d) (PatO.shape d) ih (.slice a3 l3 c3) x.L V (h0.later (PatR.lasts d) hV) wE (by omega)
    have HW : Hid (W = _) := hW
    have HBW : Hid (Below w.heap.size w W) := hWb
    have HN : Hid (_ ∧ _ ∧ _) := ⟨nA, nB, nC⟩
    clear hW nA nB nC hWb hz hz' h0 wE
    have hC := H3.out W HBW.out
    rw [HW.out] at hC
    go_enter Tryz.func61, Tryz.ntmps61
    go_wp2_with fail
    refine hC.mono ?_
    clear hC
    rintro e w3 ⟨ya3, yl3, yc3, fp3, rfl, hown3, hfr3, hb3⟩
    rw [← HW.out] at hfr3 hb3
    obtain ⟨nA, nB, nC⟩ := HN.out
    have zz3 := hb3.size
    have nA3 := (hb3.block _ (lt_row nA)).trans nA
    have nB3 := (hb3.block _ (lt_row nB)).trans nB
    have nC3 := (hb3.block _ (lt_row nC)).trans nC
    have HR3 : Hid (fp3.Nodup ∧ ∀ g ∈ fp3, W.heap.size ≤ g ∧ g < w3.heap.size) := ⟨hfr3.1, hfr3.2⟩
    have HFIN : Hid (∀ Z, Kept (w.heap.size + 1) (w.heap.size + 1 + 1 + 1) w3 Z → PatO (d + 1) Z [.int .i64 x.K, .int .i64 x.N, .string x.S, .slice ya3 yl3 yc3] x (fp3) ∧ Fresh w.heap.size Z (fp3) ∧ Below w.heap.size w Z) := fun Z hZ => by
      have hzZ := hZ.size
      have hbw : Below w.heap.size w w3 := HBW.out.trans (hb3.mono HBW.out.size)
      have hwz := hbw.size
      have r3 := HR3.out
      refine ⟨⟨_, fp3, rfl, rfl, hown3.frame (PatO.lasts d) fun g hg => hZ.block g (r3.2 g hg).2 (.inr (by have := (r3.2 g hg).1; omega))⟩, ⟨?_, fun g hg => ?_⟩, ?_⟩
      · exact r3.1
      · have := r3.2 g hg; omega
      · exact hbw.trans (hZ.below (by omega) hbw.size)
    have g0 : w3.cell? ⟨w.heap.size + 1 + 1, 0, none⟩ = some (.int .i64 x.K) := by rw [cell_of_row w3 _ 0 _ _ _ nC3]; rfl
    have z0 : w3.frozen? ⟨w.heap.size + 1 + 1, 0, none⟩ = false := frozen_of_row w3 _ _ _ _ nC3
    have b0 : w3.cell? ⟨w.heap.size + 1, 0, none⟩ = some (.int .i64 0) := by rw [cell_of_row w3 _ 0 _ _ _ nB3]; rfl
    have u0 : w3.frozen? ⟨w.heap.size + 1, 0, none⟩ = false := frozen_of_row w3 _ _ _ _ nB3
    have g1 : w3.cell? ⟨w.heap.size + 1 + 1, 1, none⟩ = some (.int .i64 x.N) := by rw [cell_of_row w3 _ 1 _ _ _ nC3]; rfl
    have z1 : w3.frozen? ⟨w.heap.size + 1 + 1, 1, none⟩ = false := frozen_of_row w3 _ _ _ _ nC3
    have b1 : w3.cell? ⟨w.heap.size + 1, 1, none⟩ = some (.int .i64 0) := by rw [cell_of_row w3 _ 1 _ _ _ nB3]; rfl
    have u1 : w3.frozen? ⟨w.heap.size + 1, 1, none⟩ = false := frozen_of_row w3 _ _ _ _ nB3
    have g2 : w3.cell? ⟨w.heap.size + 1 + 1, 2, none⟩ = some (.string x.S) := by rw [cell_of_row w3 _ 2 _ _ _ nC3]; rfl
    have z2 : w3.frozen? ⟨w.heap.size + 1 + 1, 2, none⟩ = false := frozen_of_row w3 _ _ _ _ nC3
    have b2 : w3.cell? ⟨w.heap.size + 1, 2, none⟩ = some (.string ⟨#[]⟩) := by rw [cell_of_row w3 _ 2 _ _ _ nB3]; rfl
    have u2 : w3.frozen? ⟨w.heap.size + 1, 2, none⟩ = false := frozen_of_row w3 _ _ _ _ nB3
    have g3 : w3.cell? ⟨w.heap.size + 1 + 1, 3, none⟩ = some (.slice none 0 0) := by rw [cell_of_row w3 _ 3 _ _ _ nC3]; rfl
    have z3 : w3.frozen? ⟨w.heap.size + 1 + 1, 3, none⟩ = false := frozen_of_row w3 _ _ _ _ nC3
    have b3 : w3.cell? ⟨w.heap.size + 1, 3, none⟩ = some (.slice none 0 0) := by rw [cell_of_row w3 _ 3 _ _ _ nB3]; rfl
    have u3 : w3.frozen? ⟨w.heap.size + 1, 3, none⟩ = false := frozen_of_row w3 _ _ _ _ nB3
    clear nA3 nB3 nC3 nA nB nC hown3 hfr3 hb3 HN
    go_wp2_with fail
    refine bodyPost_ret (v := .agg #[.int .i64 x.K, .int .i64 x.N, .string x.S, .slice ya3 yl3 yc3]) (by first | (simp [results, Tryz.results61, go_sem, b0, b1, b2, b3]; done) | (simp [results, Tryz.results61, go_sem, b0, b1, b2, b3]; rfl)) rfl ⟨[.int .i64 x.K, .int .i64 x.N, .string x.S, .slice ya3 yl3 yc3], fp3, rfl, HFIN.out _ ?_⟩
    repeat (first | with_reducible exact Kept.refl _ _ _ | with_reducible refine Kept.drew ?_ | (with_reducible refine Kept.set ?_ ?_; omega))

theorem toPatS_any (d : Nat) : ToLs 30 4 117 (PatR d) (PatO d) (WfPat d) (szPatD d) := toPatS_of _ _ _ _ (PatR.lasts d) (PatO.lasts d) (PatR.shape d) (PatO.shape d) (toPat_any d)

set_option maxHeartbeats 4000000 in
theorem eqPat_any : ∀ d, EqEl 71 (PatR d) (WfPat d) := by
  intro d
  induction d with
  | zero => intro vs1 vs2 x w h; exact h.elim
  | succ d ih =>
    rintro vs1 vs2 x w ⟨v3, rfl, h0⟩ ⟨v3z, rfl, k0⟩ ⟨wK, wN, wS, wE⟩
    obtain ⟨a3, l3, c3, rfl⟩ := h0.sl
    obtain ⟨za3, zl3, zc3, rfl⟩ := k0.sl
    obtain ⟨W, hW⟩ : ∃ W, W = (w.alloc (Obj.cells #[.int .i64 x.K, .int .i64 x.N, .string x.S, .slice a3 l3 c3] 117)).alloc (Obj.cells #[.int .i64 x.K, .int .i64 x.N, .string x.S, .slice za3 zl3 zc3] 117) := ⟨_, rfl⟩
    have hA : Below w.heap.size w W := by rw [hW]; exact ((Below.refl _ _).alloc (Nat.le_refl _) _).alloc (by simp) _
    have n1 : W.heap[w.heap.size]? = some (Obj.cells #[.int .i64 x.K, .int .i64 x.N, .string x.S, .slice a3 l3 c3] 117 (0, 0)) := by rw [hW, Below.heap_alloc _ _ _ (by simp)]; exact heap_alloc_new w _
    have n2 : W.heap[w.heap.size + 1]? = some (Obj.cells #[.int .i64 x.K, .int .i64 x.N, .string x.S, .slice za3 zl3 zc3] 117 (0, 0)) := by rw [hW]; have := heap_alloc_new (w.alloc (Obj.cells #[.int .i64 x.K, .int .i64 x.N, .string x.S, .slice a3 l3 c3] 117)) (Obj.cells #[.int .i64 x.K, .int .i64 x.N, .string x.S, .slice za3 zl3 zc3] 117); simpa using this
    have H3 : Hid (∀ V : World, Below w.heap.size w V → _) := fun V hV => eqPatS_of _ _ (PatR.lasts d) (PatR.shape d) ih (.slice a3 l3 c3) (.slice za3 zl3 zc3) x.L V (h0.later (PatR.lasts d) hV) (k0.later (PatR.lasts d) hV) wE
    have HW : Hid (W = _) := hW
    have HN : Hid (Below w.heap.size w W ∧ _ ∧ _) := ⟨hA, n1, n2⟩
    clear n1 n2 h0 k0 wE
    clear hA
    have hC := H3.out W HN.out.1
    rw [hW] at hC
    clear hW
    go_enter Tryz.func71, Tryz.ntmps71
    go_wp2_with fail
    refine hC.mono ?_
    clear hC
    rintro e w3 ⟨rfl, hb3⟩
    rw [← HW.out] at hb3
    have HN3 : Hid (Below w.heap.size w w3 ∧ _ ∧ _) := ⟨HN.out.1.trans (hb3.mono HN.out.1.size), (hb3.block _ (lt_row HN.out.2.1)).trans HN.out.2.1, (hb3.block _ (lt_row HN.out.2.2)).trans HN.out.2.2⟩
    clear hb3
    go_wp2
    go_ret
    exact ⟨rfl, HN3.out.1⟩

theorem eqPatS_any (d : Nat) : EqLs 38 4 (PatR d) (WfPat d) := eqPatS_of _ _ (PatR.lasts d) (PatR.shape d) (eqPat_any d)

theorem Pat_at {d n c : Nat} {w : World} {a : Option Addr} {m : List (Tm (d + 1))} (h : RowOf 4 (PatR (d + 1)) w (.slice a n c) m) (i : Nat) (x : (Tm (d + 1))) (hx : m[i]? = some x) : ∃ (b o : Nat) (a3 : Option Addr) (c3 : Nat), a = some ⟨b, o, none⟩ ∧ w.cell? ⟨b, o + i * 4, none⟩ = some (.int .i64 x.K) ∧ w.cell? ⟨b, o + i * 4 + 1, none⟩ = some (.int .i64 x.N) ∧ w.cell? ⟨b, o + i * 4 + 2, none⟩ = some (.string x.S) ∧ w.cell? ⟨b, o + i * 4 + 3, none⟩ = some (.slice a3 x.L.length c3) ∧ RowOf 4 (PatR d) w (.slice a3 x.L.length c3) x.L := by
  obtain ⟨a', c', e, hel⟩ := h
  cases e
  obtain ⟨b, o, vs, h2, h3, h4, v3, rfl, g0⟩ := hel i x hx
  obtain ⟨a3, c3, rfl⟩ := g0.slice
  exact ⟨b, o, a3, c3, h2, h4 0 _ rfl, h4 1 _ rfl, h4 2 _ rfl, h4 3 _ rfl, g0⟩

theorem Tryz.cellsPat : Tryz.prog.cellsOf 104 = 4 := by kernel_rfl
theorem Tryz.cellsPats : Tryz.prog.cellsOf 23 = 1 := by kernel_rfl
section
variable {H : Type} {enc : TypeId × Value → H} {W : World} {base : Nat} {spare : Nat → Bool} {held : Bool}

set_option maxRecDepth 100000 in
theorem read_PatC : ∀ (m d : Nat), m ≤ d → ∀ (cs : List Value) (x : DataW H × List MemPlace), DataW.trod enc Tryz.prog W base spare held m 104 cs = some x → cs.length = 4 → ∃ f : Tm d, PatR d W cs f ∧ WfPat d f := by
  intro m
  induction m using Nat.strongRecOn with
  | ind m ih =>
  intro d hd cs x h hl
  obtain ⟨c0, c1, c2, c3, rfl⟩ : ∃ c0 c1 c2 c3, cs = [c0, c1, c2, c3] := by
    match cs, hl with
    | [c0, c1, c2, c3], _ => exact ⟨c0, c1, c2, c3, rfl⟩
  obtain ⟨xs, m, rfl, _, _, hxl, hf⟩ := DataW.trod_struct Tryz.underlying104 h
  have hxl' : xs.length = 4 := hxl
  have h0 : DataW.trod enc Tryz.prog W base spare held m 3 [c0] = xs[0]? := by have := hf 0 _ rfl; simpa [Tryz.cells3, Tryz.cells9, Tryz.cellsPats] using this
  have h1 : DataW.trod enc Tryz.prog W base spare held m 3 [c1] = xs[1]? := by have := hf 1 _ rfl; simpa [Tryz.cells3, Tryz.cells9, Tryz.cellsPats] using this
  have h2 : DataW.trod enc Tryz.prog W base spare held m 9 [c2] = xs[2]? := by have := hf 2 _ rfl; simpa [Tryz.cells3, Tryz.cells9, Tryz.cellsPats] using this
  have h3 : DataW.trod enc Tryz.prog W base spare held m 23 [c3] = xs[3]? := by have := hf 3 _ rfl; simpa [Tryz.cells3, Tryz.cells9, Tryz.cellsPats] using this
  rw [List.getElem?_eq_getElem (by omega)] at h0 h1 h2 h3
  obtain ⟨x0, e0, _, q0⟩ := DataW.trod_int Tryz.underlying3 h0
  obtain ⟨x1, e1, _, q1⟩ := DataW.trod_int Tryz.underlying3 h1
  obtain ⟨x2, e2, _, q2⟩ := DataW.trod_string Tryz.underlying9 h2
  simp only [List.cons.injEq, and_true] at e0 e1 e2
  subst e0 e1 e2
  obtain ⟨d, rfl⟩ : ∃ d', d = d' + 1 := ⟨d - 1, by omega⟩
  obtain ⟨x3, r3, q3⟩ := read_row (R := PatR d) (P := WfPat d) Tryz.underlying23 Tryz.cellsPat (by omega) (fun n hn cs x hx hl => ih n (by omega) d (by omega) cs x hx hl) h3
  exact ⟨((x0, x1, x2, x3) : Int × Int × ByteArray × List (Tm d)), ⟨_, rfl, r3⟩, bounds_i64 q0, bounds_i64 q1, q2, q3⟩

theorem read_Pats {m d : Nat} (hd : m ≤ d) {v : Value} {x : DataW H × List MemPlace} (h : DataW.trod enc Tryz.prog W base spare held m 23 [v] = some x) : ∃ l : List (Tm d), RowOf 4 (PatR d) W v l ∧ WfRow (WfPat d) l :=
  read_row (R := PatR d) (P := WfPat d) Tryz.underlying23 Tryz.cellsPat (by omega) (fun n hn cs x hx hl => read_PatC n d (by omega) cs x hx hl) h

set_option maxRecDepth 100000 in
theorem read_Pat {r : Reach} {b0 : Nat} {v : Value} {x : DataW H} {p : List MemPlace} (hv : Value.okWide Tryz.prog W r b0 104 v) (h : DataW.Trod enc Tryz.prog W base spare held 104 v x p) :
    ∃ M, ∀ d, M ≤ d → ∃ (vs : List Value) (e : Tm d), v = .agg vs.toArray ∧ PatR d W vs e ∧ WfPat d e := by
  obtain ⟨cs, rfl, hsz⟩ := okWide_struct Tryz.underlying104 hv
  obtain ⟨fuel, hf⟩ := h
  have hf' : DataW.trod enc Tryz.prog W base spare held fuel 104 cs.toList = some (x, p) := hf
  refine ⟨fuel, fun d hd => ?_⟩
  obtain ⟨e, h1, h2⟩ := read_PatC fuel d hd cs.toList _ hf' (by have := hsz.trans Tryz.cellsPat; simpa using this)
  exact ⟨cs.toList, e, by simp, h1, h2⟩
end

end Go.Proofs.YtkkdnkdkelligaaGreatDoor

/- Searches and questions over lists, as data. -/
namespace Go.Proofs.YtkkdnkdkelligaaGreatDoor
open Go.RowKit
set_option linter.unusedVariables false

/-- The first place of which p holds; -1: there is none. -/
def fidx {α : Type} (p : α → Bool) (l : List α) : Int := match l.findIdx? p with | some i => (i : Int) | none => -1

theorem fidx_hit {α : Type} {p : α → Bool} {l : List α} {k : Nat} {x : α} (hx : l[k]? = some x) (hp : p x = true) (hn : ∀ (j : Nat) (y : α), j < k → l[j]? = some y → p y = false) : fidx p l = k := by
  have : l.findIdx? p = some k := by
    rw [List.findIdx?_eq_some_iff_getElem]
    obtain ⟨h1, h2⟩ := List.getElem?_eq_some_iff.1 hx
    refine ⟨h1, by rw [h2]; exact hp, fun j hj => ?_⟩
    have := hn j l[j] hj (List.getElem?_eq_getElem (by omega))
    simp [this]
  unfold fidx
  rw [this]
theorem fidx_none {α : Type} {p : α → Bool} {l : List α} (hn : ∀ (j : Nat) (y : α), j < l.length → l[j]? = some y → p y = false) : fidx p l = -1 := by
  have : l.findIdx? p = none := by
    rw [List.findIdx?_eq_none_iff]
    intro x hx
    obtain ⟨j, hj, rfl⟩ := List.mem_iff_getElem.1 hx
    exact hn j _ hj (List.getElem?_eq_getElem hj)
  unfold fidx
  rw [this]
theorem fidx_cases {α : Type} (p : α → Bool) (l : List α) : (fidx p l = -1 ∧ ∀ x ∈ l, p x = false) ∨ ∃ (k : Nat) (x : α), fidx p l = k ∧ l[k]? = some x ∧ p x = true ∧ ∀ (j : Nat) (y : α), j < k → l[j]? = some y → p y = false := by
  cases h : l.findIdx? p with
  | none =>
    refine .inl ⟨by unfold fidx; rw [h], fun x hx => ?_⟩
    exact (List.findIdx?_eq_none_iff.1 h) x hx
  | some k =>
    obtain ⟨h1, h2, h3⟩ := List.findIdx?_eq_some_iff_getElem.1 h
    refine .inr ⟨k, l[k], by unfold fidx; rw [h], List.getElem?_eq_getElem h1, h2, fun j y hj hy => ?_⟩
    obtain ⟨q1, q2⟩ := List.getElem?_eq_some_iff.1 hy
    have := h3 j hj
    rw [q2] at this
    simpa using this

theorem later_step {α : Type} {p : α → Bool} {l : List α} {k : Nat} {x : α} (hx : l[k]? = some x) (hp : p x = false) (hn : ∀ (j : Nat) (y : α), j < k → l[j]? = some y → p y = false) : ∀ (j : Nat) (y : α), j < k + 1 → l[j]? = some y → p y = false := fun j y hj hy => by
  rcases Nat.lt_or_ge j k with q | q
  · exact hn j y q hy
  · obtain rfl : j = k := by omega
    rw [hx] at hy
    cases hy
    exact hp

/-- p holds at every place. -/
def allI {α : Type} (p : Nat → α → Bool) (l : List α) : Bool := (List.range l.length).all fun i => match l[i]? with | some x => p i x | none => true

theorem allI_no {α : Type} {p : Nat → α → Bool} {l : List α} {k : Nat} {x : α} (hx : l[k]? = some x) (hp : p k x = false) : allI p l = false := by
  unfold allI
  rw [List.all_eq_false]
  exact ⟨k, List.mem_range.2 (List.getElem?_eq_some_iff.1 hx).1, by rw [hx]; simp [hp]⟩
theorem allI_yes {α : Type} {p : Nat → α → Bool} {l : List α} (hn : ∀ (j : Nat) (y : α), j < l.length → l[j]? = some y → p j y = true) : allI p l = true := by
  unfold allI
  rw [List.all_eq_true]
  intro i hi
  have hi' := List.mem_range.1 hi
  rw [List.getElem?_eq_getElem hi']
  exact hn i _ hi' (List.getElem?_eq_getElem hi')
theorem allI_step {α : Type} {p : Nat → α → Bool} {l : List α} {k : Nat} {x : α} (hx : l[k]? = some x) (hp : p k x = true) (hn : ∀ (j : Nat) (y : α), j < k → l[j]? = some y → p j y = true) : ∀ (j : Nat) (y : α), j < k + 1 → l[j]? = some y → p j y = true := fun j y hj hy => by
  rcases Nat.lt_or_ge j k with q | q
  · exact hn j y q hy
  · obtain rfl : j = k := by omega
    rw [hx] at hy
    cases hy
    exact hp
theorem allI_iff {α : Type} {p : Nat → α → Bool} {l : List α} : allI p l = true ↔ ∀ (j : Nat) (y : α), l[j]? = some y → p j y = true := by
  constructor
  · intro h j y hy
    cases e : p j y with
    | true => rfl
    | false => rw [allI_no hy e] at h; cases h
  · intro h; exact allI_yes fun j y _ hy => h j y hy

theorem str_same0 {a b : ByteArray} (h : a.toList = b.toList) : a = b := by
  rw [ByteArray.toList_eq, ByteArray.toList_eq] at h
  exact ByteArray.ext (Array.toList_inj.mp h)
theorem str_beq (a b : ByteArray) : (a.toList == b.toList) = decide (a = b) := by
  by_cases h : a = b
  · subst h; simp
  · rw [decide_eq_false h, beq_eq_false_iff_ne]; exact fun e => h (str_same0 e)

/-- That a number lies between two. -/
def inI (x a b : Int) : Bool := decide (a ≤ x) && decide (x ≤ b)

theorem szL_len {d : Nat} (ts : List (Tm (d + 1))) : ts.length ≤ szL (d + 1) ts := Nat.le_add_right _ _
theorem szRow_len {α : Type} (f : α → Nat) (xs : List α) : xs.length ≤ szRow f xs := Nat.le_add_right _ _

end Go.Proofs.YtkkdnkdkelligaaGreatDoor

/- The model's test of a number between two. -/
namespace Go.Proofs.YtkkdnkdkelligaaGreatDoor
open Go.RowKit
set_option linter.unusedVariables false

theorem tretb {a b : Bool} (h : a = b) : Ending.returned (.bool a) = .returned (.bool b) := by rw [h]

/-- An answer that is a bool: just if P. -/
def BRes (P : Prop) (w : World) (e : Ending) (w' : World) : Prop := ∃ b : Bool, e = .returned (.bool b) ∧ (b = true ↔ P) ∧ Below w.heap.size w w'
theorem bres_yes {P : Prop} {w w' : World} (h : P) (hb : Below w.heap.size w w') : BRes P w (.returned (.bool true)) w' := ⟨true, rfl, ⟨fun _ => h, fun _ => rfl⟩, hb⟩
theorem bres_no {P : Prop} {w w' : World} (h : ¬ P) (hb : Below w.heap.size w w') : BRes P w (.returned (.bool false)) w' := ⟨false, rfl, ⟨fun e => Bool.noConfusion e, fun p => absurd p h⟩, hb⟩

theorem inI_any (x a b : Int) (w : World) : Calls Tryz.prog 26 #[.int .i64 x, .int .i64 a, .int .i64 b] w fun e w' => e = .returned (.bool (inI x a b)) ∧ w = w' := by
  by_cases h1 : a ≤ x
  · by_cases h2 : x ≤ b
    · have HF : Hid (true = inI x a b) := by show _ = _; simp [inI, h1, h2]
      go_enter Tryz.func26, Tryz.ntmps26
      go_wp2
      go_ret
      exact ⟨tretb HF.out, rfl⟩
    · have HF : Hid (false = inI x a b) := by show _ = _; simp [inI, h2]
      go_enter Tryz.func26, Tryz.ntmps26
      go_wp2
      go_ret
      exact ⟨tretb HF.out, rfl⟩
  · have HF : Hid (false = inI x a b) := by show _ = _; simp [inI, h1]
    go_enter Tryz.func26, Tryz.ntmps26
    go_wp2
    go_ret
    exact ⟨tretb HF.out, rfl⟩

end Go.Proofs.YtkkdnkdkelligaaGreatDoor

/- A term that is right, and the terms of a list one by one. -/
namespace Go.Proofs.YtkkdnkdkelligaaGreatDoor
open Go.RowKit
set_option linter.unusedVariables false

/-- A term that is right. -/
def RightT (d : Nat) (t : Tm (d + 1)) : Prop := Right d t.K t.N t.S t.L 8 300
theorem specTm_any (d : Nat) (vs : List Value) (t : Tm (d + 1)) (w : World) (hr : TmR d w vs t) (hw : WfTm d t) :
    Calls Tryz.prog 28 #[.agg vs.toArray] w fun e w' => ∃ b : Bool, e = .returned (.bool b) ∧ (b = true ↔ RightT d t) ∧ Below w.heap.size w w' := by
  obtain ⟨lv, rfl, h⟩ := hr
  exact specTermOk_any d t.K t.N t.S lv t.L w h hw.2.2.2 (by have := hw.2.2.1; unfold maxLen at this; omega)

theorem terms_at {d : Nat} {w : World} {a : Option Addr} {n c : Nat} {l : List (Tm (d + 1))} (h : RdL (d + 1) w (.slice a n c) l) (i : Nat) (t : Tm (d + 1)) (ht : l[i]? = some t) :
    ∃ b o la ll lc, a = some ⟨b, o, none⟩ ∧ w.cell? ⟨b, o + i * 4, none⟩ = some (.int .i64 t.K) ∧ w.cell? ⟨b, o + i * 4 + 1, none⟩ = some (.int .i64 t.N) ∧ w.cell? ⟨b, o + i * 4 + 2, none⟩ = some (.string t.S) ∧ w.cell? ⟨b, o + i * 4 + 3, none⟩ = some (.slice la ll lc) ∧ TmR d w [.int .i64 t.K, .int .i64 t.N, .string t.S, .slice la ll lc] t := by
  obtain ⟨a', c', e, hel⟩ := h
  cases e
  obtain ⟨b, o, lv, h1, ⟨q0, q1, q2, q3⟩, h2⟩ := hel i t ht
  obtain ⟨la, ll, lc, rfl⟩ := h2.shape
  exact ⟨b, o, la, ll, lc, h1, q0, q1, q2, q3, _, rfl, h2⟩

theorem wf_term {d : Nat} {l : List (Tm (d + 1))} (h : WfL (d + 1) l) {i : Nat} {t : Tm (d + 1)} (ht : l[i]? = some t) : WfTm d t := h.2 t (List.mem_of_getElem? ht)

theorem len_max {s : ByteArray} (h : s.size ≤ maxLen) : s.size ≤ 9223372036854775807 := by unfold maxLen at h; omega

end Go.Proofs.YtkkdnkdkelligaaGreatDoor

/- A slot that has nothing: the model's. -/
namespace Go.Proofs.YtkkdnkdkelligaaGreatDoor
open Go.RowKit
set_option linter.unusedVariables false

set_option maxRecDepth 100000 in
set_option maxHeartbeats 2000000 in
theorem l10Zero_any (k n : Int) (s : ByteArray) (a : Option Addr) (len c : Nat) (w : World) (hs : s.size ≤ 9223372036854775807) (hlen : len ≤ 9223372036854775807) :
    Calls Tryz.prog 57 #[.agg #[.int .i64 k, .int .i64 n, .string s, .slice a len c]] w fun e w' => BRes (k = 0 ∧ n = 0 ∧ s.size = 0 ∧ len = 0) w e w' := by
  have hA : Below w.heap.size w (w.alloc (.cells #[.int .i64 k, .int .i64 n, .string s, .slice a len c] 66)) := (Below.refl _ _).alloc (Nat.le_refl _) _
  obtain ⟨PP, hPP⟩ : ∃ P : Prop, (k = 0 ∧ n = 0 ∧ s.size = 0 ∧ len = 0) = P := ⟨_, rfl⟩
  have HPP : Hid ((k = 0 ∧ n = 0 ∧ s.size = 0 ∧ len = 0) = PP) := hPP
  rw [hPP]
  clear hPP
  by_cases hc0 : k = 0
  · have HP0 : Hid (k = 0) := hc0
    have hk0 : (k == 0) = true := by simp [hc0]
    clear hc0
    by_cases hc1 : n = 0
    · have HP1 : Hid (n = 0) := hc1
      have hn0 : (n == 0) = true := by simp [hc1]
      clear hc1
      by_cases hc2 : s.size = 0
      · have HP2 : Hid (s.size = 0) := hc2
        have he : s.toList.isEmpty = true := (empty_iff s).2 hc2
        clear hc2
        by_cases hc3 : len = 0
        · have HP3 : Hid (len = 0) := hc3
          have hl0 : ((len : Int) == 0) = true := by simp [hc3]
          clear hc3
          have HF : Hid PP := by rw [← HPP.out]; exact ⟨(HP0.out), (HP1.out), (HP2.out), (HP3.out)⟩
          go_enter Tryz.func57, Tryz.ntmps57
          go_wp2_with fail
          go_ret
          exact bres_yes HF.out hA
        · have HF : Hid (¬ PP) := by rw [← HPP.out]; exact fun h => hc3 h.2.2.2
          have hl0 : ((len : Int) == 0) = false := by simp [hc3]
          clear hc3
          go_enter Tryz.func57, Tryz.ntmps57
          go_wp2_with fail
          go_ret
          exact bres_no HF.out hA
      · have HF : Hid (¬ PP) := by rw [← HPP.out]; exact fun h => hc2 h.2.2.1
        have he : s.toList.isEmpty = false := empty_no hc2
        clear hc2
        go_enter Tryz.func57, Tryz.ntmps57
        go_wp2_with fail
        go_ret
        exact bres_no HF.out hA
    · have HF : Hid (¬ PP) := by rw [← HPP.out]; exact fun h => hc1 h.2.1
      have hn0 : (n == 0) = false := by simp [hc1]
      clear hc1
      go_enter Tryz.func57, Tryz.ntmps57
      go_wp2_with fail
      go_ret
      exact bres_no HF.out hA
  · have HF : Hid (¬ PP) := by rw [← HPP.out]; exact fun h => hc0 h.1
    have hk0 : (k == 0) = false := by simp [hc0]
    clear hc0
    go_enter Tryz.func57, Tryz.ntmps57
    go_wp2_with fail
    go_ret
    exact bres_no HF.out hA

end Go.Proofs.YtkkdnkdkelligaaGreatDoor
