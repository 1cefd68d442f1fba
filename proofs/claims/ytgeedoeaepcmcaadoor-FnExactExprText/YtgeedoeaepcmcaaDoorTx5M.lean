/- The texts of expressions: what the model and the program hand back. -/
import Derived.Test.YtgeedoeaepcmcaaDoorTx4M
import Derived.Test.YtgeedoeaepcmcaaDoorLp2M
namespace Go.Proofs.YtgeedoeaepcmcaaDoor
open Go.RowKit
set_option linter.unusedVariables false

/-- What ExprText hands back. -/
def XTxt (d : Nat) (x : Ex d) (r : ByteArray) : Prop := (FineX d false 10 300 x ∧ r = ba (txtX d x)) ∨ (¬ FineX d false 10 300 x ∧ r = ⟨#[]⟩)

theorem XTxt.same {d : Nat} {x : Ex d} {r r' : ByteArray} (h : XTxt d x r) (h' : XTxt d x r') : r = r' := by
  rcases h with ⟨h1, rfl⟩ | ⟨h1, rfl⟩
  · rcases h' with ⟨_, rfl⟩ | ⟨h2, _⟩
    · rfl
    · exact absurd h1 h2
  · rcases h' with ⟨h2, _⟩ | ⟨_, rfl⟩
    · exact absurd h2 h1
    · rfl

set_option maxHeartbeats 1000000 in
theorem specExprText_any (d : Nat) (vs : List Value) (x : Ex d) (w : World) (hr : ExC d w vs x) (hz : szX d x ≤ 1048576) :
    Calls Tryd.prog 5 #[.agg vs.toArray] w fun e w' => ∃ r, e = .returned (.string r) ∧ Hid (XTxt d x r) ∧ Below w.heap.size w w' := by
  obtain ⟨k, n, s, a3, l3, c3, a4, l4, c4, rfl⟩ := ExC.shape d w vs x hr
  obtain ⟨W, hW⟩ : ∃ W, W = w.alloc (.cells #[.int .i64 k, .int .i64 n, .string s, .slice a3 l3 c3, .slice a4 l4 c4] 31) := ⟨_, rfl⟩
  have hA : Below w.heap.size w W := by rw [hW]; exact (Below.refl _ _).alloc (Nat.le_refl _) _
  have hB1 : W.heap[w.heap.size]? = some (.cells #[.int .i64 k, .int .i64 n, .string s, .slice a3 l3 c3, .slice a4 l4 c4] 31 (0, 0)) := by rw [hW]; exact heap_alloc_new w _
  have hC := specExprOk_any d _ x W (ExC.read d _ _ _ (ExC.lasts d _ _ _ _ hr hA)) hz
  rw [hW] at hC
  have HW : Hid (W = _) := hW
  have HR : Hid (ExC d w _ x) := hr
  clear hW hr hz
  go_enter Tryd.func5, Tryd.ntmps5
  go_wp2_with fail
  refine hC.mono ?_
  clear hC
  rintro e w1 ⟨b, rfl, HB, hB⟩
  rw [← HW.out] at hB
  have hrow := (hB.block _ (lt_row hB1)).trans hB1
  have hb1 : Below w.heap.size w w1 := hA.trans (hB.mono hA.size)
  cases b
  · have HN : Hid (XTxt d x ⟨#[]⟩) := .inr ⟨fun h => (by have := HB.out.2 h; cases this), rfl⟩
    clear HB hB hrow hB1 HW hA HR
    go_wp2_with fail
    go_ret
    exact ⟨_, rfl, HN, hb1⟩
  · have HF : Hid (FineX d false 10 300 x) := HB.out.1 rfl
    obtain ⟨r, hr⟩ : ∃ r, ba (txtX d x) = r := ⟨_, rfl⟩
    have HN : Hid (XTxt d x r) := .inl ⟨HF.out, hr.symm⟩
    have hC := l5Text_any d _ x false 10 w1 (ExC.lasts d _ _ _ _ HR.out hb1) HF.out.1 (by have := HF.out.2; omega)
    rw [hr] at hC
    have b0 : w1.cell? ⟨w.heap.size, 0, none⟩ = some (.int .i64 k) := by rw [cell_of_row w1 _ 0 _ _ _ hrow]; rfl
    have b1 : w1.cell? ⟨w.heap.size, 1, none⟩ = some (.int .i64 n) := by rw [cell_of_row w1 _ 1 _ _ _ hrow]; rfl
    have b2 : w1.cell? ⟨w.heap.size, 2, none⟩ = some (.string s) := by rw [cell_of_row w1 _ 2 _ _ _ hrow]; rfl
    have b3 : w1.cell? ⟨w.heap.size, 3, none⟩ = some (.slice a3 l3 c3) := by rw [cell_of_row w1 _ 3 _ _ _ hrow]; rfl
    have b4 : w1.cell? ⟨w.heap.size, 4, none⟩ = some (.slice a4 l4 c4) := by rw [cell_of_row w1 _ 4 _ _ _ hrow]; rfl
    clear HB hB hrow hB1 HW hA HR HF hr
    go_wp2_with fail
    refine hC.mono ?_
    clear hC b0 b1 b2 b3 b4
    rintro e w2 ⟨rfl, hB2⟩
    have hb2 : Below w.heap.size w w2 := hb1.trans (hB2.mono hb1.size)
    clear hB2 hb1
    go_wp2_with fail
    go_ret
    exact ⟨_, rfl, HN, hb2⟩

set_option maxHeartbeats 2000000 in
theorem exprText_any (d : Nat) (vs : List Value) (x : Ex d) (fp : List Nat) (w : World) (hown : ExO d w vs x fp) (hnd : fp.Nodup) (hlt : ∀ g ∈ fp, g < w.heap.size) (hz : szX d x ≤ 1048576) (ht : TabOk w) :
    Calls Tryd.prog 7 #[.agg vs.toArray] w fun e w' => ∃ r, e = .returned (.string r) ∧ Hid (XTxt d x r) ∧ Below w.heap.size w w' := by
  obtain ⟨k, n, s, a3, l3, c3, a4, l4, c4, rfl⟩ := ExO.shape d w vs x fp hown
  obtain ⟨W, hW⟩ : ∃ W, W = w.alloc (.cells #[.int .i64 k, .int .i64 n, .string s, .slice a3 l3 c3, .slice a4 l4 c4] 31) := ⟨_, rfl⟩
  have hA : Below w.heap.size w W := by rw [hW]; exact (Below.refl _ _).alloc (Nat.le_refl _) _
  have hB1 : W.heap[w.heap.size]? = some (.cells #[.int .i64 k, .int .i64 n, .string s, .slice a3 l3 c3, .slice a4 l4 c4] 31 (0, 0)) := by rw [hW]; exact heap_alloc_new w _
  have hC := exprOk_any d _ x fp W (ExO.lasts d _ _ _ _ _ hown fun g hg => hA.block g (hlt g hg)) hnd (fun g hg => Nat.lt_of_lt_of_le (hlt g hg) hA.size) hz
  rw [hW] at hC
  have HW : Hid (W = _) := hW
  have HR : Hid (ExC d w _ x) := ExO.readc d _ _ _ _ hown
  have HT : Hid (TabOk w) := ht
  clear hW hown hnd hlt hz ht
  go_enter Tryd.func7, Tryd.ntmps7
  go_wp2_with fail
  refine hC.mono ?_
  clear hC
  rintro e w1 ⟨b, rfl, HB, hB⟩
  rw [← HW.out] at hB
  have hrow := (hB.block _ (lt_row hB1)).trans hB1
  have hb1 : Below w.heap.size w w1 := hA.trans (hB.mono hA.size)
  have hz1 : w.heap.size < w1.heap.size := lt_row hrow
  cases b
  · have HN : Hid (XTxt d x ⟨#[]⟩) := .inr ⟨fun h => (by have := HB.out.2 h; cases this), rfl⟩
    clear HB hB hrow hB1 HW hA HR HT
    go_wp2_with fail
    go_ret
    exact ⟨_, rfl, HN, hb1⟩
  · have HF : Hid (FineX d false 10 300 x) := HB.out.1 rfl
    have HN : Hid (XTxt d x (ba (txtX d x))) := .inl ⟨HF.out, rfl⟩
    obtain ⟨V, hV⟩ : ∃ V, V = w1.alloc (.cells #[.pointer none, .slice none 0 0] 43) := ⟨_, rfl⟩
    have hV1 : Below w1.heap.size w1 V := by rw [hV]; exact (Below.refl _ _).alloc (Nat.le_refl _) _
    have hBV : Bd w1 w1.heap.size [] V := ⟨by rw [hV]; exact Lib.IsBuilderF.of (Lib.fresh_isBuilder _ 5 w1), hV1⟩
    have hhV := (hV1.block _ hz1).trans hrow
    have hC := writeExpr_any d w1 w1.heap.size [] _ x false 10 V (ExC.lasts d _ _ _ _ HR.out hb1) HF.out.1 (HT.out.later hb1) hBV (by have := HF.out.2; omega) (by have := HF.out.2; simp; omega)
    rw [List.nil_append] at hC
    have b0 : V.cell? ⟨w.heap.size, 0, none⟩ = some (.int .i64 k) := by rw [cell_of_row V _ 0 _ _ _ hhV]; rfl
    have b1 : V.cell? ⟨w.heap.size, 1, none⟩ = some (.int .i64 n) := by rw [cell_of_row V _ 1 _ _ _ hhV]; rfl
    have b2 : V.cell? ⟨w.heap.size, 2, none⟩ = some (.string s) := by rw [cell_of_row V _ 2 _ _ _ hhV]; rfl
    have b3 : V.cell? ⟨w.heap.size, 3, none⟩ = some (.slice a3 l3 c3) := by rw [cell_of_row V _ 3 _ _ _ hhV]; rfl
    have b4 : V.cell? ⟨w.heap.size, 4, none⟩ = some (.slice a4 l4 c4) := by rw [cell_of_row V _ 4 _ _ _ hhV]; rfl
    rw [hV] at hC b0 b1 b2 b3 b4
    have HV : Hid (V = _) := hV
    clear HB hB hrow hB1 HW hA HR HF hV hhV hBV hV1 HT
    go_wp2_with fail
    refine hC.mono ?_
    clear hC b0 b1 b2 b3 b4
    rintro e Y ⟨rfl, HY, _⟩
    have hS := Tryd.Builder_String_any_k w1.heap.size w1.heap.size (txtX d x) Y HY.out.1 HY.out.2.size
    have hbY : Below w.heap.size w Y := hb1.trans (HY.out.2.mono hb1.size)
    rw [show (⟨(txtX d x).toArray⟩ : ByteArray) = ba (txtX d x) from rfl] at hS
    generalize ba (txtX d x) = R at hS HN
    clear HY HV
    go_wp2_with fail
    refine hS.mono ?_
    clear hS
    rintro e Z ⟨rfl, _, hZ, _⟩
    have hbZ : Below w.heap.size w Z := hbY.trans (hZ.mono hb1.size)
    clear hbY hZ
    go_wp2_with fail
    go_ret
    exact ⟨R, rfl, HN, hbZ⟩

end Go.Proofs.YtgeedoeaepcmcaaDoor
