/- The program's way through a pattern by slots. -/
import Derived.Test.YtfcdmmmihiojoaaPf3
namespace Go.Proofs.Ytfcdmmmihiojoaa
open Go.RowKit
set_option linter.unusedVariables false

def PtC (sl : Int) (d : Nat) : Prop := ∀ (w0 : World) (vs : List Value) (x : Tm d) (deep L : Int) (p : Nat) (tk : List Int) (w : World), PatR d w0 vs x → WfPat d x → szPatD d x ≤ 1048576 → Below w0.heap.size w0 w → w0.heap.size ≤ p → FgA w p sl L tk → tk.Nodup → 1 ≤ deep → deep ≤ 1000 → 0 ≤ L → L ≤ 1000000 →
  Calls Try.prog 14 #[.pointer (some ⟨p, 0, none⟩), .agg vs.toArray, .int .i64 deep] w fun r w' => TkRes (FitsP sl d (11 - deep) L tk x) p sl (L - cntT d x) (tk ++ slotsP d x) w r w'

set_option maxRecDepth 100000 in
set_option maxHeartbeats 4000000 in
/-- What is refused at once. -/
theorem fits_no (PP : Prop) (tk' : List Int) (L' : Int) (sl k n : Int) (s : ByteArray) (a : Option Addr) (len c : Nat) (deep L : Int) (p : Nat) (tk : List Int) (w : World) (hs : s.size ≤ 9223372036854775807) (hl : len ≤ 9223372036854775807) (hn : I64 n)
    (hG : FgA w p sl L tk) (hsl : 0 ≤ sl) (hsl2 : sl ≤ 400) (hd0 : 1 ≤ deep) (hd1 : deep ≤ 1000) (hL0 : 0 ≤ L) (hL1 : L ≤ 1000000) (h : L = 0 ∨ 10 < deep ∨ ¬ ShapeF k n s len ∨ (k = 3 ∧ ¬ TakesP sl tk n)) (hPP : ¬ PP) :
    Calls Try.prog 14 #[.pointer (some ⟨p, 0, none⟩), .agg #[.int .i64 k, .int .i64 n, .string s, .slice a len c], .int .i64 deep] w fun r w' => TkRes PP p sl L' tk' w r w' := by
  have HN : Hid (¬ PP) := hPP
  have hpz := hG.lt
  have c1 := hG.left
  have z1 := hG.thaw 1
  have HT : Hid (∀ x : Int, Turned p w ((w.setCell ⟨p, 1, none⟩ (.int .i64 x)).alloc (.cells #[.int .i64 k, .int .i64 n, .string s, .slice a len c] 29))) := fun x => (Turned.of_set _ _ _ _).trans (Turned.of_below ((Below.refl _ _).alloc (Nat.le_refl _) _))
  clear hPP
  by_cases h1 : L = 0
  · subst h1
    clear h hG
    go_enter Try.func14, Try.ntmps14
    go_wp2_with fail
    go_ret
    exact tk_no HN.out (HT.out _)
  have hL2 : decide (L - 1 < 0) = false := by simp; omega
  by_cases h2 : 10 < deep
  · clear h hG h1
    go_enter Try.func14, Try.ntmps14
    go_wp2_with fail
    go_ret
    exact tk_no HN.out (HT.out _)
  obtain ⟨W, hW⟩ : ∃ W, W = (w.setCell ⟨p, 1, none⟩ (.int .i64 (L - 1))).alloc (.cells #[.int .i64 k, .int .i64 n, .string s, .slice a len c] 29) := ⟨_, rfl⟩
  have HTW : Hid (Turned p w W) := by rw [hW]; exact HT.out _
  have HGW : Hid (FgA W p sl (L - 1) tk) := by rw [hW]; exact (hG.less (L - 1)).kept (by rw [(((Below.refl _ _).alloc (Nat.le_refl _) _).block p (by simpa using hpz))])
  have hbx : W.heap[w.heap.size]? = some (.cells #[.int .i64 k, .int .i64 n, .string s, .slice a len c] 29 (0, 0)) := by
    rw [hW, show w.heap.size = (w.setCell ⟨p, 1, none⟩ (.int .i64 (L - 1))).heap.size from by simp]; exact heap_alloc_new _ _
  have HBX : Hid (W.heap[w.heap.size]? = some (.cells #[.int .i64 k, .int .i64 n, .string s, .slice a len c] 29 (0, 0))) := hbx
  have hC := patFieldsFit_any k n s a len c W hs hl
  rw [hW] at hC
  have HW : Hid (W = _) := hW
  have HH : Hid (¬ ShapeF k n s len ∨ (k = 3 ∧ ¬ TakesP sl tk n)) := by
    rcases h with h | h | h
    · exact absurd h h1
    · exact absurd h h2
    · exact h
  clear h hG h1 hW hbx
  go_enter Try.func14, Try.ntmps14
  go_wp2_with fail
  refine hC.mono ?_
  clear hC
  rintro e w1 ⟨b, rfl, hb, hB⟩
  rw [← HW.out] at hB
  have HT1 : Hid (Turned p w w1) := HTW.out.trans (Turned.of_below hB)
  cases b with
  | false =>
    clear hb hB HTW HGW HBX HW HH
    go_wp2_with fail
    go_ret
    exact tk_no HN.out HT1.out
  | true =>
    obtain ⟨h3, h4⟩ : k = 3 ∧ ¬ TakesP sl tk n := by
      rcases HH.out with h | h
      · exact absurd (hb.1 rfl) h
      · exact h
    have HG1 : Hid (FgA w1 p sl (L - 1) tk) := HGW.out.kept (hB.block _ HGW.out.lt)
    have hb1 := (hB.block _ (lt_row HBX.out)).trans HBX.out
    have d0 : w1.cell? ⟨w.heap.size, 0, none⟩ = some (.int .i64 k) := by rw [cell_of_row w1 _ 0 _ _ _ hb1]; rfl
    have d1 : w1.cell? ⟨w.heap.size, 1, none⟩ = some (.int .i64 n) := by rw [cell_of_row w1 _ 1 _ _ _ hb1]; rfl
    have hC := takes_any p sl (L - 1) n tk w1 HG1.out hsl hsl2 hn
    have HNT : Hid (¬ TakesP sl tk n) := h4
    subst h3
    clear hb hB HTW HGW HBX HW HH h4 hb1
    go_wp2_with fail
    refine hC.mono ?_
    clear hC
    rintro e w2 ⟨b, rfl, hb, _, hT2⟩
    have : b = false := by cases b; rfl; exact absurd (hb.1 rfl) HNT.out
    subst this
    have HT2 : Hid (Turned p w w2) := HT1.out.trans hT2
    clear hb hT2 d0 d1 HG1
    go_wp2_with fail
    go_ret
    exact tk_no HN.out HT2.out

end Go.Proofs.Ytfcdmmmihiojoaa
