/- The library's sort by insertion, at terms: the walk. -/
import Derived.Test.YtjdhkhpdhblhbaaSo2M
import Derived.Test.YtjdhkhpdhblhbaaOd3M
import Derived.Test.YtjdhkhpdhblhbaaOkM
import Derived.BigQuiet
import Derived.Deep.DeepCutAuto
import Derived.Deep.CutRange
import Derived.Shelf.Abstract
import Derived.Deep.RegionWith
namespace Go.Proofs.Ytjdhkhpdhblhbaa
open Go.RowKit
set_option linter.unusedVariables false

/-- What is asked of the comparison: one number of two terms, wherever they lie. -/
def CmpC (d : Nat) (Q : Tm (d + 1) → Prop) : Prop := ∀ (x y : Tm (d + 1)), Q x → Q y → ∃ r : Int, (r < 0 ↔ Lt (d + 1) x y) ∧ ∀ (a : Option Addr) (l c : Nat) (a2 : Option Addr) (l2 c2 : Nat) (w : World), RdL d w (.slice a l c) x.L → RdL d w (.slice a2 l2 c2) y.L →
  Calls Try.prog 54 #[.agg #[.int .i64 x.K, .int .i64 x.N, .string x.S, .slice a l c], .agg #[.int .i64 y.K, .int .i64 y.N, .string y.S, .slice a2 l2 c2]] w fun e w' => e = .returned (.int .i64 r) ∧ Below w.heap.size w w'

/-- Where the sort stands. -/
structure SAt (d : Nat) (Q : Tm (d + 1) → Prop) (w wr : World) (g n c : Nat) (ts us : List (Tm (d + 1))) (fp fq : List Nat) : Prop where
  own : OwnL (d + 1) wr (.slice (some ⟨g, 0, none⟩) n c) us fq
  perm : us.Perm ts
  fperm : fq.Perm fp
  len : us.length = n
  all : ∀ x ∈ us, Q x
  nd : fq.Nodup
  wrote : Wrote [g] w wr

theorem SAt.later {d : Nat} {Q : Tm (d + 1) → Prop} {w wr w' : World} {g n c : Nat} {ts us : List (Tm (d + 1))} {fp fq : List Nat} (h : SAt d Q w wr g n c ts us fp fq) (hb : Below wr.heap.size wr w') : SAt d Q w w' g n c ts us fp fq :=
  ⟨h.own.frame fun b hb' => hb.block b (h.own.lt b hb'), h.perm, h.fperm, h.len, h.all, h.nd, h.wrote.trans (Wrote.of_below hb)⟩

theorem SAt.swap {d : Nat} {Q : Tm (d + 1) → Prop} {w wr : World} {g n c j : Nat} {ts us : List (Tm (d + 1))} {fp fq : List Nat} {x y : Tm (d + 1)} {lx ly : Value} (h : SAt d Q w wr g n c ts us fp fq) (hx : us[j]? = some x) (hy : us[j + 1]? = some y) (hlx : TermAt wr g j x lx) (hly : TermAt wr g (j + 1) y ly) :
    ∃ fq', SAt d Q w (setL (setL wr g ((j + 1) * 4) (tcells x lx)) g (j * 4) (tcells y ly)) g n c ts (swp us j) fp fq' := by
  obtain ⟨fp', o1, o2, o3⟩ := own_swap h.own h.nd hx hy hlx hly
  refine ⟨fp', o1, (swp_perm hx hy).trans h.perm, o2.trans h.fperm, by rw [swp_len hx hy]; exact h.len, fun z hz => h.all z ((swp_perm hx hy).mem_iff.1 hz), o2.nodup_iff.2 h.nd, h.wrote.trans ?_⟩
  have hsz : (setL (setL wr g ((j + 1) * 4) (tcells x lx)) g (j * 4) (tcells y ly)).heap.size = wr.heap.size := by rw [setL_size, setL_size]
  have hb1 := setL_below (tcells x lx) wr g ((j + 1) * 4) g (Nat.le_refl _)
  have hb2 := setL_below (tcells y ly) (setL wr g ((j + 1) * 4) (tcells x lx)) g (j * 4) g (Nat.le_refl _)
  exact ⟨hb2.os.trans hb1.os, hb2.tape.trans hb1.tape, hb2.output.trans hb1.output, by omega, fun b hb hne => by rw [setL_other _ _ _ _ _ (by simpa using hne), setL_other _ _ _ _ _ (by simpa using hne)]⟩

theorem TermAt.later {d : Nat} {w w' : World} {g i : Nat} {t : Tm (d + 1)} {lv : Value} (h : TermAt w g i t lv) (hb : Below w.heap.size w w') : TermAt w' g i t lv := by
  obtain ⟨⟨a, b, c, e⟩, z0, z1, z2, z3⟩ := h
  have hlt : g < w.heap.size := World.block_lt_of_cell? w _ a
  have hf : ∀ o, w'.frozen? ⟨g, o, none⟩ = w.frozen? ⟨g, o, none⟩ := fun o => hb.frozen (p := ⟨g, o, none⟩) hlt
  exact ⟨⟨cell_later hb a, cell_later hb b, cell_later hb c, cell_later hb e⟩, by rw [hf]; exact z0, by rw [hf]; exact z1, by rw [hf]; exact z2, by rw [hf]; exact z3⟩

theorem enters_orderOf : ∀ args w, (callFunc 54 args).run Try.prog w = .ok (.enter 54 args) w := enters_of Try.func54 (by kernel_rfl) rfl

set_option maxRecDepth 100000 in
set_option maxHeartbeats 2000000 in
theorem insertion_any (d : Nat) (Q : Tm (d + 1) → Prop) (HC : CmpC d Q) (HQ : ∀ x, Q x → OkT (d + 1) x) (g n c : Nat) (ts : List (Tm (d + 1))) (fp : List Nat) (w : World) (hS : SAt d Q w w g n c ts ts fp fp) (hn : n ≤ 1048576) :
    Calls Try.prog 78 #[.slice (some ⟨g, 0, none⟩) n c, .int .i64 0, .int .i64 n, .func (.func 54) #[] #[]] w fun e w' => e = .returned (.tuple #[]) ∧ ∃ us fq, SAt d Q w w' g n c ts us fp fq ∧ SortedTo (Lt (d + 1)) us n := by
  have HCC : Hid (CmpC d Q) := HC
  have HLin := lin_Lt (d + 1)
  have HL : Hid (Lin (Lt (d + 1)) (OkT (d + 1)) ∧ ∀ x, Q x → OkT (d + 1) x) := ⟨HLin, HQ⟩
  have H0 : Hid _ := hS
  clear HC HLin HQ hS
  go_enter Try.func78, Try.ntmps78
  go_wp2_with fail
  go_loopw [8] (fun vi wr => Hid (∃ (i : Nat) (us : List (Tm (d + 1))) (fq : List Nat), vi = .int .i64 i ∧ 1 ≤ i ∧ i ≤ n + 1 ∧ SAt d Q w wr g n c ts us fp fq ∧ SortedTo (Lt (d + 1)) us i)) (fun vi _ => n + 1 - (intOf vi).toNat)
  case atStart => exact ⟨1, ts, fp, rfl, by omega, by omega, H0.out, fun p q x y h1 h2 => by omega⟩
  case round =>
    obtain ⟨wo, rfl⟩ : ∃ wo : World, wo = wr := ⟨_, rfl⟩
    obtain ⟨i, us, fq, rfl, hi1, hin, hS, hsrt⟩ := hrel.out
    clear hrel
    by_cases hlt : i < n
    · have hltz : (i : Int) < (n : Int) := by omega
      have HS : Hid (SAt d Q w wo g n c ts us fp fq ∧ Ins (Lt (d + 1)) us i i) := ⟨hS, Ins.start hsrt⟩
      clear hS hsrt
      go_wp2_with fail
      go_loopw [9] (fun vj wr => Hid (∃ (j : Nat) (us : List (Tm (d + 1))) (fq : List Nat), vj = .int .i64 j ∧ j ≤ i ∧ SAt d Q w wr g n c ts us fp fq ∧ Ins (Lt (d + 1)) us i j)) (fun vj _ => (intOf vj).toNat)
      case atStart => exact ⟨i, us, fq, rfl, Nat.le_refl _, HS.out.1, HS.out.2⟩
      case round =>
        obtain ⟨j, us, fq, rfl, hji, hS, hins⟩ := hrel.out
        clear hrel HS
        have OUT : Hid (∀ V, Below wr.heap.size wr V → (j = 0 ∨ ∃ x y, us[j - 1]? = some x ∧ us[j]? = some y ∧ ¬ Lt (d + 1) y x) → ∃ us fq, SAt d Q w V g n c ts us fp fq ∧ SortedTo (Lt (d + 1)) us (i + 1)) := fun V hV h => ⟨us, fq, hS.later hV, hins.stop HL.out.1 (fun x hx => HL.out.2 x (hS.all x hx)) h⟩
        by_cases hj : 0 < j
        · obtain ⟨jp, rfl⟩ : ∃ jp, j = jp + 1 := ⟨j - 1, by omega⟩
          obtain ⟨x, hx⟩ : ∃ x, us[jp]? = some x := ⟨_, List.getElem?_eq_getElem (by rw [hS.len]; omega)⟩
          obtain ⟨y, hy⟩ : ∃ y, us[jp + 1]? = some y := ⟨_, List.getElem?_eq_getElem (by rw [hS.len]; omega)⟩
          obtain ⟨xa, xl, xc, tx, rx⟩ := own_term hS.own hx
          obtain ⟨ya, yl, yc, ty, ry⟩ := own_term hS.own hy
          have HSW : Hid (∀ V : World, Below wr.heap.size wr V → Lt (d + 1) y x → ∃ fq', SAt d Q w (setL (setL V g ((jp + 1) * 4) (tcells x (.slice xa xl xc))) g (jp * 4) (tcells y (.slice ya yl yc))) g n c ts (swp us jp) fp fq' ∧ Ins (Lt (d + 1)) (swp us jp) i jp) := fun V hV hlt2 => by
            have hS' := hS.later hV
            obtain ⟨fq', h1⟩ := hS'.swap hx hy (tx.later hV) (ty.later hV)
            exact ⟨fq', h1, hins.swp HL.out.1 (fun z hz => HL.out.2 z (hS.all z hz)) hx hy hlt2 hji⟩
          have HTA : Hid (∀ V : World, Below wr.heap.size wr V → TermAt V g jp x (.slice xa xl xc) ∧ TermAt V g (jp + 1) y (.slice ya yl yc)) := fun V hV => ⟨tx.later hV, ty.later hV⟩
          obtain ⟨r, hrl, hcm⟩ := HCC.out y x (hS.all y (List.mem_of_getElem? hy)) (hS.all x (List.mem_of_getElem? hx))
          have HCM : Hid (∀ V : World, Below wr.heap.size wr V → _) := fun V hV => hcm ya yl yc xa xl xc V (ry.later hV) (rx.later hV)
          have HRL : Hid (r < 0 ↔ Lt (d + 1) y x) := hrl
          clear hrl hcm
          have HXY : Hid (us[jp]? = some x ∧ us[jp + 1]? = some y) := ⟨hx, hy⟩
          obtain ⟨⟨x0, x1, x2, x3⟩, xz0, xz1, xz2, xz3⟩ := tx
          obtain ⟨⟨y0, y1, y2, y3⟩, yz0, yz1, yz2, yz3⟩ := ty
          clear hS hins rx ry hx hy
          have eg := enters_orderOf
          have hn0 := After.some wr
          have px0 := After.cell x0
          have px1 := After.cell x1
          have px2 := After.cell x2
          have px3 := After.cell x3
          have py0 := After.cell y0
          have py1 := After.cell y1
          have py2 := After.cell y2
          have py3 := After.cell y3
          have hwp : IntKind.i64.wrap (jp : Int) = (jp : Int) := by rw [IntKind.wrap_i64]; omega
          have jz : (jp : Int) + 1 < (n : Int) := by omega
          have jz1 : (jp : Int) < (n : Int) := by omega
          have p0 : (0 : Int) < (jp : Int) + 1 := by omega
          have p1 : (0 : Int) ≤ (jp : Int) + 1 := by omega
          have e0 : ((jp : Int) + 1).toNat = jp + 1 := by omega
          go_wp2_with fail
          refine wp_region_after (by kernel_rfl) (by kernel_rfl) ?_
          repeat (go_big_quiet_step ((go_at_fn 54; exact calls_after (HCM.out _ (After.bel _)))))
          refine wpQuiet_nil ?_
          rintro _ ⟨nq, rfl⟩
          obtain ⟨V, hV⟩ : ∃ V, nq.now = V := ⟨_, rfl⟩
          have HBV : Hid (Below wr.heap.size wr V) := by rw [← hV]; exact nq.bel
          rw [hV]
          clear hV px0 px1 px2 px3 py0 py1 py2 py3 hn0 x0 x1 x2 x3 y0 y1 y2 y3 xz0 xz1 xz2 xz3 yz0 yz1 yz2 yz3
          by_cases hr : r < 0
          · have hrd : decide (r < 0) = true := by simp [hr]
            rw [hrd]
            obtain ⟨tx, ty⟩ := HTA.out V HBV.out
            obtain ⟨⟨x0, x1, x2, x3⟩, xz0, xz1, xz2, xz3⟩ := tx
            obtain ⟨⟨y0, y1, y2, y3⟩, yz0, yz1, yz2, yz3⟩ := ty
            have HNX : Hid (∃ fq', SAt d Q w ((((((((V.setCell ⟨g, (jp + 1) * 4, none⟩ (.int .i64 x.K)).setCell ⟨g, (jp + 1) * 4 + 1, none⟩ (.int .i64 x.N)).setCell ⟨g, (jp + 1) * 4 + 2, none⟩ (.string x.S)).setCell ⟨g, (jp + 1) * 4 + 3, none⟩ (.slice xa xl xc)).setCell ⟨g, jp * 4, none⟩ (.int .i64 y.K)).setCell ⟨g, jp * 4 + 1, none⟩ (.int .i64 y.N)).setCell ⟨g, jp * 4 + 2, none⟩ (.string y.S)).setCell ⟨g, jp * 4 + 3, none⟩ (.slice ya yl yc)).drew g n c ts (swp us jp) fp fq' ∧ Ins (Lt (d + 1)) (swp us jp) i jp) := by
              obtain ⟨fq', q1, q2⟩ := HSW.out V HBV.out (HRL.out.1 hr)
              exact ⟨fq', SAt.later q1 (Below.refl _ _).drew, q2⟩
            clear HSW HTA HRL HCM hr hrd
            go_wp2_with fail
            go_region
            all_goals
              go_wp2_with fail
              go_roundw
              case rel =>
                obtain ⟨fq', q1, q2⟩ := HNX.out
                exact ⟨jp, swp us jp, fq', rfl, by omega, q1, q2⟩
              case measure => simp [intOf]
          · have hrd : decide (r < 0) = false := by simp [hr]
            rw [hrd]
            have HO : Hid _ := OUT.out V HBV.out (.inr ⟨x, y, HXY.out.1, HXY.out.2, fun h => hr (HRL.out.2 h)⟩)
            clear HSW HTA HRL HCM hr hrd OUT
            go_wp2_with fail
            go_roundw
            case rel =>
              obtain ⟨us', fq', q1, q2⟩ := HO.out
              exact ⟨i + 1, us', fq', by go_num, by omega, by omega, q1, q2⟩
            case measure => simp [intOf]; omega
        · have hj0 : j = 0 := by omega
          have HO : Hid (∀ V, Below wr.heap.size wr V → _) := fun V hV => OUT.out V hV (.inl hj0)
          have hd1 : decide ((0 : Int) < (j : Int)) = false := by simp; omega
          have HJ : Hid (j = 0) := hj0
          have hn0 := After.some wr
          have hd2 : decide (0 < j) = false := by simp; omega
          clear OUT hS hins hj hj0
          go_wp2_with fail
          refine wp_region_after (by kernel_rfl) (by kernel_rfl) ?_
          repeat (go_big_quiet_step (fail))
          refine wpQuiet_nil ?_
          rintro _ ⟨nq, rfl⟩
          obtain ⟨V, hV⟩ : ∃ V, nq.now = V := ⟨_, rfl⟩
          have HOV : Hid _ := HO.out V (by rw [← hV]; exact nq.bel)
          rw [hV]
          clear hV HO
          go_wp2_with fail
          go_roundw
          case rel =>
            obtain ⟨us', fq', q1, q2⟩ := HOV.out
            exact ⟨i + 1, us', fq', by go_num, by omega, by omega, q1, q2⟩
          case measure => simp [intOf]; omega
    · have HE : Hid (∃ us fq, SAt d Q w wo g n c ts us fp fq ∧ SortedTo (Lt (d + 1)) us n) := ⟨us, fq, hS, fun p q x y h1 h2 h3 h4 => hsrt p q x y h1 (by omega) h3 h4⟩
      have hltz : decide ((i : Int) < (n : Int)) = false := by simp; omega
      clear hS hsrt
      go_wp2_with fail
      go_end0
      exact ⟨rfl, HE.out⟩

end Go.Proofs.Ytjdhkhpdhblhbaa
