/- The law's own marks on Code (its lists), and what it reads of them. -/
import Derived.Test.YtfachfimdenapaaDoorMarkTM
import Derived.Test.YtfachfimdenapaaDoorDtCodeM
import Derived.Test.YtfachfimdenapaaDoorMkFnM
import Derived.Test.YtfachfimdenapaaDoorMkPatM
namespace Go.Proofs.YtfachfimdenapaaDoor
open Go.RowKit
set_option linter.unusedVariables false

def ckSCode (d : Nat) (x : DCode d) : Nat := (x.Fns.map ckFn).sum + ((x.Pats.map (ckPat d)).sum)
def mkSCode (d : Nat) (q : Int) (x : DCode d) : DCode d := ⟨(mkL mkFn ckFn (q) x.Fns), (mkL (mkPat d) (ckPat d) (q + ((x.Fns.map ckFn).sum : Nat)) x.Pats)⟩

set_option maxHeartbeats 4000000 in
set_option maxRecDepth 100000 in
theorem markCode_any (d : Nat) (vs : List Value) (x : DCode d) (fp : List Nat) (q : Int) (w : World) (hO : CodeO d w vs x fp) (hnd : fp.Nodup) (hlt : ∀ g ∈ fp, g < w.heap.size) (h0 : 0 ≤ q) (h1 : q + (ckSCode d x : Nat) ≤ 1099511627776) :
    Calls Tryd.prog 10 #[.agg vs.toArray, .int .i64 q] w fun e w' => e = .returned (.int .i64 (q + (ckSCode d x : Nat))) ∧ CodeO d w' vs (mkSCode d q x) fp ∧ Wrote fp w w' := by
  obtain ⟨v0, v1, of0, of1, rfl, efp, oh0, oh1⟩ := hO
  obtain ⟨a0, l0, c0, rfl⟩ := oh0.sl
  obtain ⟨a1, l1, c1, rfl⟩ := oh1.sl
  subst efp
  obtain ⟨A0, hA0⟩ : ∃ A, (x.Fns.map ckFn).sum = A := ⟨_, rfl⟩
  have HA0 : Hid ((x.Fns.map ckFn).sum = A0) := hA0
  obtain ⟨A1, hA1⟩ : ∃ A, (x.Pats.map (ckPat d)).sum = A := ⟨_, rfl⟩
  have HA1 : Hid ((x.Pats.map (ckPat d)).sum = A1) := hA1
  have hck : ckSCode d x = A0 + (A1) := by rw [← hA0]; rw [← hA1]; rfl
  rw [hck] at h1 ⊢
  obtain ⟨W, hW⟩ : ∃ W, W = w.alloc (.cells #[.slice a0 l0 c0, .slice a1 l1 c1] 32) := ⟨_, rfl⟩
  have hA : Below w.heap.size w W := by rw [hW]; exact (Below.refl _ _).alloc (Nat.le_refl _) _
  have HR_W : Hid (W.heap[w.heap.size]? = some (.cells #[.slice a0 l0 c0, .slice a1 l1 c1] 32 (0, 0))) := by rw [hW]; exact heap_alloc_new w _
  have HN0 : Hid (of0.Nodup ∧ w.heap.size ∉ of0 ∧ (∀ z ∈ of0, z < w.heap.size) ∧ (∀ z ∈ of0, z ∈ of0 ++ (of1))) := ⟨(List.nodup_append.1 hnd).1, fun hz => by have := hlt _ (List.mem_append_left _ hz); omega, fun z hz => hlt z (List.mem_append_left _ hz), fun z hz => List.mem_append_left _ hz⟩
  have HN1 : Hid (of1.Nodup ∧ w.heap.size ∉ of1 ∧ (∀ z ∈ of1, z < w.heap.size) ∧ (∀ z ∈ of1, z ∈ of0 ++ (of1))) := ⟨(List.nodup_append.1 hnd).2.1, fun hz => by have := hlt _ (List.mem_append_right _ (hz)); omega, fun z hz => hlt z (List.mem_append_right _ (hz)), fun z hz => List.mem_append_right _ (hz)⟩
  have HD0_1 : Hid (∀ z ∈ of0, z ∉ of1) := fun z hz hz' => (List.nodup_append.1 hnd).2.2 z hz z hz' rfl
  have HO0_W : Hid (OwnRow 4 45 FnO W (.slice a0 l0 c0) x.Fns of0) := oh0.frame FnO.lasts fun z hz => hA.block z (HN0.out.2.2.1 z hz)
  have HO1_W : Hid (OwnRow 4 51 (PatO d) W (.slice a1 l1 c1) x.Pats of1) := oh1.frame (PatO.lasts d) fun z hz => hA.block z (HN1.out.2.2.1 z hz)
  have HW_W : Hid (Wrote (of0 ++ (of1)) w W) := Wrote.of_below hA
  have HWW : Hid (W = _) := hW
  clear hnd hlt hck hA hW oh0 hA0 oh1 hA1
  have hC := markFnS_any (.slice a0 l0 c0) x.Fns of0 (q) W HO0_W.out HN0.out.1 (fun z hz => Nat.lt_of_lt_of_le (HN0.out.2.2.1 z hz) HW_W.out.size) (by omega) (by have := HA0.out; omega) (len_of_ck HA0.out (ck_pos_Fn) (by omega))
  obtain ⟨y0, hy0⟩ : ∃ z : Int, q + (((x.Fns.map ckFn).sum : Nat) : Int) = z := ⟨_, rfl⟩
  have HY0 : Hid (q + (((x.Fns.map ckFn).sum : Nat) : Int) = y0) := hy0
  have hq0 : q + (A0 : Nat) = y0 := by have := HA0.out; omega
  have HQ0 : Hid (q + (A0 : Nat) = y0) := hq0
  rw [hy0] at hC
  clear hy0
  have hqb0 : 0 ≤ y0 := by omega
  have hbd0 : y0 + (A1 : Nat) ≤ 1099511627776 := by omega
  clear hq0
  rw [HWW.out] at hC
  go_enter Tryd.func10, Tryd.ntmps10
  go_wp2_with fail
  refine hC.mono ?_
  clear hC
  rintro e U0 ⟨rfl, hOw, hWr⟩
  rw [← HWW.out] at hWr
  have HR_U0 : Hid (U0.heap[w.heap.size]? = some (.cells #[.slice a0 l0 c0, .slice a1 l1 c1] 32 (0, 0))) := (hWr.block _ (lt_row HR_W.out) HN0.out.2.1).trans HR_W.out
  have HO1_U0 : Hid (OwnRow 4 51 (PatO d) U0 (.slice a1 l1 c1) x.Pats of1) := HO1_W.out.frame (PatO.lasts d) fun z hz => hWr.block z (Nat.lt_of_lt_of_le (HN1.out.2.2.1 z hz) HW_W.out.size) (fun hm => HD0_1.out z hm hz)
  have HO0_U0 : Hid (OwnRow 4 45 FnO U0 (.slice a0 l0 c0) (mkL mkFn ckFn (q) x.Fns) of0) := hOw
  have HW_U0 : Hid (Wrote (of0 ++ (of1)) w U0) := HW_W.out.trans (hWr.mono HN0.out.2.2.2)
  clear hWr hOw
  have hC := markPatS_any d (.slice a1 l1 c1) x.Pats of1 (y0) U0 HO1_U0.out HN1.out.1 (fun z hz => Nat.lt_of_lt_of_le (HN1.out.2.2.1 z hz) HW_U0.out.size) (by omega) (by have := HA1.out; omega) (len_of_ck HA1.out (ck_pos_Pat d) (by omega))
  obtain ⟨y1, hy1⟩ : ∃ z : Int, y0 + (((x.Pats.map (ckPat d)).sum : Nat) : Int) = z := ⟨_, rfl⟩
  have HY1 : Hid (y0 + (((x.Pats.map (ckPat d)).sum : Nat) : Int) = y1) := hy1
  have hq1 : y0 + (A1 : Nat) = y1 := by have := HA1.out; omega
  have HQ1 : Hid (y0 + (A1 : Nat) = y1) := hq1
  rw [hy1] at hC
  clear hy1
  have hqb1 : 0 ≤ y1 := by omega
  have hbd1 : y1 + (0 : Nat) ≤ 1099511627776 := by omega
  clear hq1
  have d1 : U0.cell? ⟨w.heap.size, 1, none⟩ = some (.slice a1 l1 c1) := by rw [cell_of_row U0 _ 1 _ _ _ HR_U0.out]; rfl
  go_wp2_with fail
  refine hC.mono ?_
  clear hC d1
  rintro e U1 ⟨rfl, hOw, hWr⟩
  have HR_U1 : Hid (U1.heap[w.heap.size]? = some (.cells #[.slice a0 l0 c0, .slice a1 l1 c1] 32 (0, 0))) := (hWr.block _ (lt_row HR_U0.out) HN1.out.2.1).trans HR_U0.out
  have HO0_U1 : Hid (OwnRow 4 45 FnO U1 (.slice a0 l0 c0) (mkL mkFn ckFn (q) x.Fns) of0) := HO0_U0.out.frame FnO.lasts fun z hz => hWr.block z (Nat.lt_of_lt_of_le (HN0.out.2.2.1 z hz) HW_U0.out.size) (HD0_1.out z hz)
  have HO1_U1 : Hid (OwnRow 4 51 (PatO d) U1 (.slice a1 l1 c1) (mkL (mkPat d) (ckPat d) (y0) x.Pats) of1) := hOw
  have HW_U1 : Hid (Wrote (of0 ++ (of1)) w U1) := HW_U0.out.trans (hWr.mono HN1.out.2.2.2)
  clear hWr hOw
  have HEND : Hid (y1 = q + ((A0 + (A1) : Nat) : Int)) := by have := HQ0.out; have := HQ1.out; show _ = _; omega
  have HOX : Hid (CodeO d U1 [.slice a0 l0 c0, .slice a1 l1 c1] (mkSCode d q x) (of0 ++ (of1))) := by
    have e0 := HY0.out
    subst e0
    have e1 := HY1.out
    subst e1
    exact ⟨_, _, _, _, rfl, rfl, HO0_U1.out, HO1_U1.out⟩
  go_wp2_with fail
  go_ret
  exact ⟨tret1 HEND.out, HOX.out, HW_U1.out⟩

end Go.Proofs.YtfachfimdenapaaDoor

/- How many marks there are in code, by how great it is. -/
namespace Go.Proofs.YtfachfimdenapaaDoor
open Go.RowKit
set_option linter.unusedVariables false

theorem sum_le {α : Type} {f g : α → Nat} {xs : List α} {c : Nat} (h : ∀ x ∈ xs, f x ≤ c + c * g x) : (xs.map f).sum ≤ c * szRow g xs := by
  unfold szRow
  induction xs with
  | nil => simp
  | cons x xs ih =>
    have h1 := h x (by simp)
    have h2 := ih fun y hy => h y (by simp [hy])
    simp only [List.map_cons, List.sum_cons, List.length_cons]
    have h3 : c * (xs.length + 1 + (g x + (xs.map g).sum)) = c + c * g x + c * (xs.length + (xs.map g).sum) := by
      rw [Nat.mul_add, Nat.mul_add, Nat.mul_add, Nat.mul_add, Nat.mul_one]
      omega
    rw [h3]
    omega
theorem ckIns_le (xs : List DIns) : (xs.map ckIns).sum ≤ 4 * szRow szInsD xs := sum_le fun x _ => by unfold ckIns; omega
theorem ckFn_le (xs : List DFn) : (xs.map ckFn).sum ≤ 4 * szRow szFnD xs := sum_le fun x _ => by
  have := ckIns_le x.Ins
  unfold ckFn szFnD
  omega
theorem ckPat_le : ∀ (d : Nat) (xs : List (Tm d)), (xs.map (ckPat d)).sum ≤ 4 * szRow (szPatD d) xs := by
  intro d
  induction d with
  | zero => intro xs; exact sum_le fun x _ => Empty.elim x
  | succ d ih =>
    intro xs
    refine sum_le fun x _ => ?_
    have := ih x.L
    show 1 + (1 + (1 + (x.L.map (ckPat d)).sum)) ≤ 4 + 4 * (x.S.size + szRow (szPatD d) x.L)
    omega
theorem ckSCode_le (d : Nat) (x : DCode d) : ckSCode d x ≤ 4 * szCodeD d x := by
  have h1 := ckFn_le x.Fns
  have h2 := ckPat_le d x.Pats
  unfold ckSCode szCodeD
  omega

end Go.Proofs.YtfachfimdenapaaDoor
