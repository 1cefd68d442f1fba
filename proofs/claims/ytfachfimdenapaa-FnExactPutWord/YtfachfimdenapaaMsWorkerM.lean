/- The law's own marks on Worker (its lists), and what it reads of them. -/
import Derived.Test.YtfachfimdenapaaMk0M
import Derived.Test.YtfachfimdenapaaDtWorkerM
import Derived.Test.YtfachfimdenapaaLawTM
namespace Go.Proofs.Ytfachfimdenapaa
open Go.RowKit
set_option linter.unusedVariables false

def ckSWorker (d : Nat) (x : DWorker d) : Nat := 3 * cntL d x.State.L + (3 * cntL (d + 1) x.Box)
def mkSWorker (d : Nat) (q : Int) (x : DWorker d) : DWorker d := ⟨x.Pid, x.Name, x.Mod, x.No, ((x.State.K, x.State.N, x.State.S, (markL d (q) x.State.L).1) : Int × Int × ByteArray × List (Tm d)), (markL (d + 1) (q + (3 * cntL d x.State.L : Nat)) x.Box).1⟩

set_option maxHeartbeats 4000000 in
set_option maxRecDepth 100000 in
theorem markWorker_any (d : Nat) (vs : List Value) (x : DWorker d) (fp : List Nat) (q : Int) (w : World) (hO : WorkerO d w vs x fp) (hnd : fp.Nodup) (hlt : ∀ g ∈ fp, g < w.heap.size) (h0 : 0 ≤ q) (h1 : q + (ckSWorker d x : Nat) ≤ 1099511627776) :
    Calls Try.prog 16 #[.agg vs.toArray, .int .i64 q] w fun e w' => e = .returned (.int .i64 (q + (ckSWorker d x : Nat))) ∧ WorkerO d w' vs (mkSWorker d q x) fp ∧ Wrote fp w w' := by
  obtain ⟨v4, v5, v6, v7, v8, of4, of8, rfl, efp, oh4, oh8⟩ := hO
  obtain ⟨w4, ew4, oh4⟩ := oh4
  cases ew4
  obtain ⟨a7, l7, c7, rfl⟩ := oh4.sl
  obtain ⟨a8, l8, c8, rfl⟩ := oh8.sl
  subst efp
  obtain ⟨A7, hA7⟩ : ∃ A, 3 * cntL d x.State.L = A := ⟨_, rfl⟩
  have HA7 : Hid (3 * cntL d x.State.L = A7) := hA7
  obtain ⟨A8, hA8⟩ : ∃ A, 3 * cntL (d + 1) x.Box = A := ⟨_, rfl⟩
  have HA8 : Hid (3 * cntL (d + 1) x.Box = A8) := hA8
  have hck : ckSWorker d x = A7 + (A8) := by rw [← hA7]; rw [← hA8]; rfl
  rw [hck] at h1 ⊢
  obtain ⟨W, hW⟩ : ∃ W, W = w.alloc (.cells #[.int .i64 x.Pid, .string x.Name, .string x.Mod, .int .i64 x.No, .int .i64 x.State.K, .int .i64 x.State.N, .string x.State.S, .slice a7 l7 c7, .slice a8 l8 c8] 33) := ⟨_, rfl⟩
  have hA : Below w.heap.size w W := by rw [hW]; exact (Below.refl _ _).alloc (Nat.le_refl _) _
  have HR_W : Hid (W.heap[w.heap.size]? = some (.cells #[.int .i64 x.Pid, .string x.Name, .string x.Mod, .int .i64 x.No, .int .i64 x.State.K, .int .i64 x.State.N, .string x.State.S, .slice a7 l7 c7, .slice a8 l8 c8] 33 (0, 0))) := by rw [hW]; exact heap_alloc_new w _
  have HN7 : Hid (of4.Nodup ∧ w.heap.size ∉ of4 ∧ (∀ z ∈ of4, z < w.heap.size) ∧ (∀ z ∈ of4, z ∈ of4 ++ (of8))) := ⟨(List.nodup_append.1 hnd).1, fun hz => by have := hlt _ (List.mem_append_left _ hz); omega, fun z hz => hlt z (List.mem_append_left _ hz), fun z hz => List.mem_append_left _ hz⟩
  have HN8 : Hid (of8.Nodup ∧ w.heap.size ∉ of8 ∧ (∀ z ∈ of8, z < w.heap.size) ∧ (∀ z ∈ of8, z ∈ of4 ++ (of8))) := ⟨(List.nodup_append.1 hnd).2.1, fun hz => by have := hlt _ (List.mem_append_right _ (hz)); omega, fun z hz => hlt z (List.mem_append_right _ (hz)), fun z hz => List.mem_append_right _ (hz)⟩
  have HD7_8 : Hid (∀ z ∈ of4, z ∉ of8) := fun z hz hz' => (List.nodup_append.1 hnd).2.2 z hz z hz' rfl
  have HO7_W : Hid (OwnL d W (.slice a7 l7 c7) x.State.L of4) := oh4.frame fun z hz => hA.block z (HN7.out.2.2.1 z hz)
  have HO8_W : Hid (OwnL (d + 1) W (.slice a8 l8 c8) x.Box of8) := oh8.frame fun z hz => hA.block z (HN8.out.2.2.1 z hz)
  have HW_W : Hid (Wrote (of4 ++ (of8)) w W) := Wrote.of_below hA
  have HWW : Hid (W = _) := hW
  clear hnd hlt hck hA hW oh4 hA7 oh8 hA8
  have hC := markTerm_of d x.State.K x.State.N x.State.S a7 l7 c7 x.State.L of4 (q) W HO7_W.out HN7.out.1 (by omega) (by have := HA7.out; omega)
  obtain ⟨y7, hy7⟩ : ∃ z : Int, q + 3 * ((cntL d x.State.L : Nat) : Int) = z := ⟨_, rfl⟩
  have HY7 : Hid (q + 3 * ((cntL d x.State.L : Nat) : Int) = y7) := hy7
  have hq7 : q + (A7 : Nat) = y7 := by have := HA7.out; omega
  have HQ7 : Hid (q + (A7 : Nat) = y7) := hq7
  rw [hy7] at hC
  clear hy7
  have hqb7 : 0 ≤ y7 := by omega
  have hbd7 : y7 + (A8 : Nat) ≤ 1099511627776 := by omega
  clear hq7
  rw [HWW.out] at hC
  go_enter Try.func16, Try.ntmps16
  go_wp2_with fail
  refine hC.mono ?_
  clear hC
  rintro e U7 ⟨rfl, hOw, hWr⟩
  rw [← HWW.out] at hWr
  have HR_U7 : Hid (U7.heap[w.heap.size]? = some (.cells #[.int .i64 x.Pid, .string x.Name, .string x.Mod, .int .i64 x.No, .int .i64 x.State.K, .int .i64 x.State.N, .string x.State.S, .slice a7 l7 c7, .slice a8 l8 c8] 33 (0, 0))) := (hWr.block _ (lt_row HR_W.out) HN7.out.2.1).trans HR_W.out
  have HO8_U7 : Hid (OwnL (d + 1) U7 (.slice a8 l8 c8) x.Box of8) := HO8_W.out.frame fun z hz => hWr.block z (Nat.lt_of_lt_of_le (HN8.out.2.2.1 z hz) HW_W.out.size) (fun hm => HD7_8.out z hm hz)
  have HO7_U7 : Hid (OwnL d U7 (.slice a7 l7 c7) (markL d (q) x.State.L).1 of4) := hOw
  have HW_U7 : Hid (Wrote (of4 ++ (of8)) w U7) := HW_W.out.trans (hWr.mono HN7.out.2.2.2)
  clear hWr hOw
  have hC := markTermS_any (d + 1) (.slice a8 l8 c8) x.Box of8 (y7) U7 HO8_U7.out HN8.out.1 (by omega) (by have := HA8.out; omega)
  obtain ⟨y8, hy8⟩ : ∃ z : Int, y7 + 3 * ((cntL (d + 1) x.Box : Nat) : Int) = z := ⟨_, rfl⟩
  have HY8 : Hid (y7 + 3 * ((cntL (d + 1) x.Box : Nat) : Int) = y8) := hy8
  have hq8 : y7 + (A8 : Nat) = y8 := by have := HA8.out; omega
  have HQ8 : Hid (y7 + (A8 : Nat) = y8) := hq8
  rw [hy8] at hC
  clear hy8
  have hqb8 : 0 ≤ y8 := by omega
  have hbd8 : y8 + (0 : Nat) ≤ 1099511627776 := by omega
  clear hq8
  have d8 : U7.cell? ⟨w.heap.size, 8, none⟩ = some (.slice a8 l8 c8) := by rw [cell_of_row U7 _ 8 _ _ _ HR_U7.out]; rfl
  go_wp2_with fail
  refine hC.mono ?_
  clear hC d8
  rintro e U8 ⟨rfl, hOw, hWr⟩
  have HR_U8 : Hid (U8.heap[w.heap.size]? = some (.cells #[.int .i64 x.Pid, .string x.Name, .string x.Mod, .int .i64 x.No, .int .i64 x.State.K, .int .i64 x.State.N, .string x.State.S, .slice a7 l7 c7, .slice a8 l8 c8] 33 (0, 0))) := (hWr.block _ (lt_row HR_U7.out) HN8.out.2.1).trans HR_U7.out
  have HO7_U8 : Hid (OwnL d U8 (.slice a7 l7 c7) (markL d (q) x.State.L).1 of4) := HO7_U7.out.frame fun z hz => hWr.block z (Nat.lt_of_lt_of_le (HN7.out.2.2.1 z hz) HW_U7.out.size) (HD7_8.out z hz)
  have HO8_U8 : Hid (OwnL (d + 1) U8 (.slice a8 l8 c8) (markL (d + 1) (y7) x.Box).1 of8) := hOw
  have HW_U8 : Hid (Wrote (of4 ++ (of8)) w U8) := HW_U7.out.trans (hWr.mono HN8.out.2.2.2)
  clear hWr hOw
  have HEND : Hid (y8 = q + ((A7 + (A8) : Nat) : Int)) := by have := HQ7.out; have := HQ8.out; show _ = _; omega
  have HOX : Hid (WorkerO d U8 [.int .i64 x.Pid, .string x.Name, .string x.Mod, .int .i64 x.No, .int .i64 x.State.K, .int .i64 x.State.N, .string x.State.S, .slice a7 l7 c7, .slice a8 l8 c8] (mkSWorker d q x) (of4 ++ (of8))) := by
    have e7 := HY7.out
    subst e7
    have e8 := HY8.out
    subst e8
    exact ⟨_, _, _, _, _, _, _, rfl, rfl, ⟨_, rfl, HO7_U8.out⟩, HO8_U8.out⟩
  go_wp2_with fail
  go_ret
  exact ⟨tret1 HEND.out, HOX.out, HW_U8.out⟩

set_option maxHeartbeats 4000000 in
set_option maxRecDepth 100000 in
theorem heldWorker_any (d : Nat) (vs : List Value) (x : DWorker d) (q : Int) (w : World) (hR : WorkerR d w vs (mkSWorker d q x)) (h0 : 0 ≤ q) (h1 : q + (ckSWorker d x : Nat) ≤ 1099511627776) :
    Calls Try.prog 18 #[.agg vs.toArray, .int .i64 q] w fun e w' => e = .returned (.int .i64 (q + (ckSWorker d x : Nat))) ∧ Below w.heap.size w w' := by
  obtain ⟨v4, v5, v6, v7, v8, rfl, g7, g8⟩ := hR
  obtain ⟨u4, eu4, g7⟩ := g7
  cases eu4
  obtain ⟨a7, l7, c7, rfl⟩ := RdL.shape g7
  obtain ⟨a8, l8, c8, rfl⟩ := RdL.shape g8
  obtain ⟨A7, hA7⟩ : ∃ A, 3 * cntL d x.State.L = A := ⟨_, rfl⟩
  have HA7 : Hid (3 * cntL d x.State.L = A7) := hA7
  obtain ⟨A8, hA8⟩ : ∃ A, 3 * cntL (d + 1) x.Box = A := ⟨_, rfl⟩
  have HA8 : Hid (3 * cntL (d + 1) x.Box = A8) := hA8
  have hck : ckSWorker d x = A7 + (A8) := by rw [← hA7]; rw [← hA8]; rfl
  rw [hck] at h1 ⊢
  have HG7 : Hid (∀ V : World, Below w.heap.size w V → RdL d V (.slice a7 l7 c7) (markL d (q) x.State.L).1) := fun V hV => (show RdL d w (.slice a7 l7 c7) (markL d (q) x.State.L).1 from g7).later hV
  have HG8 : Hid (∀ V : World, Below w.heap.size w V → RdL (d + 1) V (.slice a8 l8 c8) (markL (d + 1) (q + (3 * cntL d x.State.L : Nat)) x.Box).1) := fun V hV => (show RdL (d + 1) w (.slice a8 l8 c8) (markL (d + 1) (q + (3 * cntL d x.State.L : Nat)) x.Box).1 from g8).later hV
  obtain ⟨W, hW⟩ : ∃ W, W = w.alloc (.cells #[.int .i64 x.Pid, .string x.Name, .string x.Mod, .int .i64 x.No, .int .i64 x.State.K, .int .i64 x.State.N, .string x.State.S, .slice a7 l7 c7, .slice a8 l8 c8] 33) := ⟨_, rfl⟩
  have HB_W : Hid (Below w.heap.size w W) := by rw [hW]; exact (Below.refl _ _).alloc (Nat.le_refl _) _
  have HR_W : Hid (W.heap[w.heap.size]? = some (.cells #[.int .i64 x.Pid, .string x.Name, .string x.Mod, .int .i64 x.No, .int .i64 x.State.K, .int .i64 x.State.N, .string x.State.S, .slice a7 l7 c7, .slice a8 l8 c8] 33 (0, 0))) := by rw [hW]; exact heap_alloc_new w _
  have HWW : Hid (W = _) := hW
  clear hck hW g7 hA7 g8 hA8
  have hC := heldTerm_of d x.State.K x.State.N x.State.S a7 l7 c7 x.State.L (q) W (by have h := HG7.out W HB_W.out; exact h) (by omega) (by have := HA7.out; omega)
  obtain ⟨y7, hy7⟩ : ∃ z : Int, q + 3 * ((cntL d x.State.L : Nat) : Int) = z := ⟨_, rfl⟩
  have hq7 : q + (A7 : Nat) = y7 := by have := HA7.out; omega
  have HQ7 : Hid (q + (A7 : Nat) = y7) := hq7
  have HQF7 : Hid (q + (3 * cntL d x.State.L : Nat) = y7) := by have := HA7.out; show _ = _; omega
  rw [hy7] at hC
  clear hy7
  have hqb7 : 0 ≤ y7 := by omega
  have hqn7 : ¬ y7 < 0 := by omega
  have hbd7 : y7 + (A8 : Nat) ≤ 1099511627776 := by omega
  clear hq7
  rw [HWW.out] at hC
  go_enter Try.func18, Try.ntmps18
  go_wp2_with fail
  refine hC.mono ?_
  clear hC
  rintro e U7 ⟨rfl, hB⟩
  rw [← HWW.out] at hB
  have HR_U7 : Hid (U7.heap[w.heap.size]? = some (.cells #[.int .i64 x.Pid, .string x.Name, .string x.Mod, .int .i64 x.No, .int .i64 x.State.K, .int .i64 x.State.N, .string x.State.S, .slice a7 l7 c7, .slice a8 l8 c8] 33 (0, 0))) := (hB.block _ (lt_row HR_W.out)).trans HR_W.out
  have HB_U7 : Hid (Below w.heap.size w U7) := HB_W.out.trans (hB.mono HB_W.out.size)
  clear hB
  have hC := heldTermS_any (d + 1) (.slice a8 l8 c8) x.Box (y7) U7 (by have h := HG8.out U7 HB_U7.out; rw [HQF7.out] at h; exact h) (by omega) (by have := HA8.out; omega)
  obtain ⟨y8, hy8⟩ : ∃ z : Int, y7 + 3 * ((cntL (d + 1) x.Box : Nat) : Int) = z := ⟨_, rfl⟩
  have hq8 : y7 + (A8 : Nat) = y8 := by have := HA8.out; omega
  have HQ8 : Hid (y7 + (A8 : Nat) = y8) := hq8
  have HQF8 : Hid (q + (3 * cntL d x.State.L : Nat) + (3 * cntL (d + 1) x.Box : Nat) = y8) := by have := HA8.out; have := HQF7.out; show _ = _; omega
  rw [hy8] at hC
  clear hy8
  have hqb8 : 0 ≤ y8 := by omega
  have hqn8 : ¬ y8 < 0 := by omega
  have hbd8 : y8 + (0 : Nat) ≤ 1099511627776 := by omega
  clear hq8
  have d8 : U7.cell? ⟨w.heap.size, 8, none⟩ = some (.slice a8 l8 c8) := by rw [cell_of_row U7 _ 8 _ _ _ HR_U7.out]; rfl
  go_wp2_with fail
  refine hC.mono ?_
  clear hC d8
  rintro e U8 ⟨rfl, hB⟩
  have HR_U8 : Hid (U8.heap[w.heap.size]? = some (.cells #[.int .i64 x.Pid, .string x.Name, .string x.Mod, .int .i64 x.No, .int .i64 x.State.K, .int .i64 x.State.N, .string x.State.S, .slice a7 l7 c7, .slice a8 l8 c8] 33 (0, 0))) := (hB.block _ (lt_row HR_U7.out)).trans HR_U7.out
  have HB_U8 : Hid (Below w.heap.size w U8) := HB_U7.out.trans (hB.mono HB_U7.out.size)
  clear hB
  have HEND : Hid (y8 = q + ((A7 + (A8) : Nat) : Int)) := by have := HQ7.out; have := HQ8.out; show _ = _; omega
  go_wp2_with fail
  go_ret
  exact ⟨tret1 HEND.out, HB_U8.out⟩

end Go.Proofs.Ytfachfimdenapaa
