/- What the law of a word put to a worker holds: the worker's values written out; what is answered is within bounds. -/
import Derived.Test.YtfachfimdenapaaPw4M
import Derived.Test.YtfachfimdenapaaPw6M
import Derived.Test.YtfachfimdenapaaMsWorkerM
import Derived.Test.YtfachfimdenapaaLawTM
import Derived.Test.YtfachfimdenapaaCpM
namespace Go.Proofs.Ytfachfimdenapaa
open Go.RowKit
set_option linter.unusedVariables false

theorem WorkerR.vals {d : Nat} {w : World} {vs : List Value} {x : DWorker d} (h : WorkerR d w vs x) : ∃ (a7 : Option Addr) (l7 c7 : Nat) (a8 : Option Addr) (l8 c8 : Nat), vs = [.int .i64 x.Pid, .string x.Name, .string x.Mod, .int .i64 x.No, .int .i64 x.State.K, .int .i64 x.State.N, .string x.State.S, .slice a7 l7 c7, .slice a8 l8 c8] := by
  obtain ⟨v4, v5, v6, v7, v8, rfl, ⟨lv, e, h1⟩, h2⟩ := h
  simp only [List.cons.injEq, and_true] at e
  obtain ⟨rfl, rfl, rfl, rfl⟩ := e
  obtain ⟨a7, l7, c7, rfl⟩ := h1.shape
  obtain ⟨a8, l8, c8, rfl⟩ := h2.shape
  exact ⟨a7, l7, c7, a8, l8, c8, rfl⟩

theorem WorkerO.rdqs {d : Nat} {w : World} {x : DWorker d} {fp : List Nat} {a7 a8 : Option Addr} {l7 c7 l8 c8 : Nat} {p n k m : Value} {i j : Value} {s : Value} (h : WorkerO d w [p, n, k, m, i, j, s, .slice a7 l7 c7, .slice a8 l8 c8] x fp) : RdQ d w (.slice a7 l7 c7) x.State.L ∧ RdQ (d + 1) w (.slice a8 l8 c8) x.Box := by
  obtain ⟨v4, v5, v6, v7, v8, f0, f1, e, _, ⟨lv, e2, h1⟩, h2⟩ := h
  simp only [List.cons.injEq, and_true] at e e2
  obtain ⟨_, _, _, _, _, _, _, e7, e8⟩ := e
  obtain ⟨_, _, _, e9⟩ := e2
  rw [e7, e9, e8]
  exact ⟨h1.rdq, h2.rdq⟩

theorem PwT.wf {d : Nat} {x y : DWorker d} {t : Tm (d + 1)} {ok : Bool} (h : PwT x t y ok) (hx : WfWorker d x) (ht : WfTm d t) : WfWorker d y := by
  rcases h with ⟨_, h2, rfl⟩ | ⟨_, _, rfl⟩
  · refine ⟨hx.1, hx.2.1, hx.2.2.1, hx.2.2.2.1, hx.2.2.2.2.1, ?_, fun u hu => ?_⟩
    · show (x.Box ++ [t]).length ≤ _
      have := h2.2.2
      rw [List.length_append, List.length_singleton]; omega
    · rcases List.mem_append.1 hu with hu | hu
      · exact hx.2.2.2.2.2.2 u hu
      · obtain rfl := List.mem_singleton.1 hu
        exact ht
  · exact hx

theorem ckS_up {d : Nat} (y : DWorker d) : ckSWorker (d + 1) (upW y) = 3 * cntL d y.State.L + 3 * cntL (d + 1) y.Box := by
  show 3 * cntL (d + 1) (conv d (d + 1) y.State.L) + 3 * cntL (d + 1 + 1) (conv (d + 1) (d + 1 + 1) y.Box) = _
  rw [conv_cnt (by omega), conv_cnt (by omega)]

theorem PwT.ck {d : Nat} {x y : DWorker d} {t : Tm (d + 1)} {ok : Bool} (h : PwT x t y ok) (hx : cntL d x.State.L ≤ 1048576 ∧ cntL (d + 1) x.Box ≤ 1048576) (ht : cntL d t.L ≤ 1048576) : ckSWorker (d + 1) (upW y) ≤ 10000000 := by
  rw [ckS_up]
  rcases h with ⟨_, _, rfl⟩ | ⟨_, _, rfl⟩
  · have h1 : cntL (d + 1) (putW x t).Box = cntL (d + 1) x.Box + (1 + cntL d t.L) := cntL_append d x.Box t
    have h2 : (putW x t).State = x.State := rfl
    rw [h1, h2]; omega
  · omega

theorem wk_cnt {d : Nat} {x : DWorker d} (hz : szWorkerD d x ≤ 1048576) : cntL d x.State.L ≤ 1048576 ∧ cntL (d + 1) x.Box ≤ 1048576 := by
  have hz' : x.Name.size + (x.Mod.size + (szTm d x.State + szL (d + 1) x.Box)) ≤ 1048576 := hz
  have e1 : szTm d x.State = x.State.S.size + szL d x.State.L := rfl
  have := cntL_szL d x.State.L
  have := cntL_szL (d + 1) x.Box
  omega

theorem wk_few {d : Nat} {x : DWorker d} (hz : szWorkerD d x ≤ 1048576) : FewL d x.State.L ∧ FewL (d + 1) x.Box := by
  have hz' : x.Name.size + (x.Mod.size + (szTm d x.State + szL (d + 1) x.Box)) ≤ 1048576 := hz
  have e1 : szTm d x.State = x.State.S.size + szL d x.State.L := rfl
  exact ⟨few_sz _ _ (by omega), few_sz _ _ (by omega)⟩

/-- Nine stores into a box. -/
theorem put9 {w : World} {b : Nat} {T : TypeId} {z0 z1 z2 z3 z4 z5 z6 z7 z8 : Value} (h : w.heap[b]? = some (.cells #[z0, z1, z2, z3, z4, z5, z6, z7, z8] T (0, 0))) (v0 v1 v2 v3 v4 v5 v6 v7 v8 : Value) : (((((((((w.setCell ⟨b, 0, none⟩ v0).setCell ⟨b, 1, none⟩ v1).setCell ⟨b, 2, none⟩ v2).setCell ⟨b, 3, none⟩ v3).setCell ⟨b, 4, none⟩ v4).setCell ⟨b, 5, none⟩ v5).setCell ⟨b, 6, none⟩ v6).setCell ⟨b, 7, none⟩ v7).setCell ⟨b, 8, none⟩ v8).heap[b]? = some (.cells #[v0, v1, v2, v3, v4, v5, v6, v7, v8] T (0, 0)) := by
  have y0 : (w.setCell ⟨b, 0, none⟩ v0).heap[b]? = some (.cells #[v0, z1, z2, z3, z4, z5, z6, z7, z8] T (0, 0)) := heap_setCell_same _ b 0 _ _ v0 h
  have y1 : ((w.setCell ⟨b, 0, none⟩ v0).setCell ⟨b, 1, none⟩ v1).heap[b]? = some (.cells #[v0, v1, z2, z3, z4, z5, z6, z7, z8] T (0, 0)) := heap_setCell_same _ b 1 _ _ v1 y0
  have y2 : (((w.setCell ⟨b, 0, none⟩ v0).setCell ⟨b, 1, none⟩ v1).setCell ⟨b, 2, none⟩ v2).heap[b]? = some (.cells #[v0, v1, v2, z3, z4, z5, z6, z7, z8] T (0, 0)) := heap_setCell_same _ b 2 _ _ v2 y1
  have y3 : ((((w.setCell ⟨b, 0, none⟩ v0).setCell ⟨b, 1, none⟩ v1).setCell ⟨b, 2, none⟩ v2).setCell ⟨b, 3, none⟩ v3).heap[b]? = some (.cells #[v0, v1, v2, v3, z4, z5, z6, z7, z8] T (0, 0)) := heap_setCell_same _ b 3 _ _ v3 y2
  have y4 : (((((w.setCell ⟨b, 0, none⟩ v0).setCell ⟨b, 1, none⟩ v1).setCell ⟨b, 2, none⟩ v2).setCell ⟨b, 3, none⟩ v3).setCell ⟨b, 4, none⟩ v4).heap[b]? = some (.cells #[v0, v1, v2, v3, v4, z5, z6, z7, z8] T (0, 0)) := heap_setCell_same _ b 4 _ _ v4 y3
  have y5 : ((((((w.setCell ⟨b, 0, none⟩ v0).setCell ⟨b, 1, none⟩ v1).setCell ⟨b, 2, none⟩ v2).setCell ⟨b, 3, none⟩ v3).setCell ⟨b, 4, none⟩ v4).setCell ⟨b, 5, none⟩ v5).heap[b]? = some (.cells #[v0, v1, v2, v3, v4, v5, z6, z7, z8] T (0, 0)) := heap_setCell_same _ b 5 _ _ v5 y4
  have y6 : (((((((w.setCell ⟨b, 0, none⟩ v0).setCell ⟨b, 1, none⟩ v1).setCell ⟨b, 2, none⟩ v2).setCell ⟨b, 3, none⟩ v3).setCell ⟨b, 4, none⟩ v4).setCell ⟨b, 5, none⟩ v5).setCell ⟨b, 6, none⟩ v6).heap[b]? = some (.cells #[v0, v1, v2, v3, v4, v5, v6, z7, z8] T (0, 0)) := heap_setCell_same _ b 6 _ _ v6 y5
  have y7 : ((((((((w.setCell ⟨b, 0, none⟩ v0).setCell ⟨b, 1, none⟩ v1).setCell ⟨b, 2, none⟩ v2).setCell ⟨b, 3, none⟩ v3).setCell ⟨b, 4, none⟩ v4).setCell ⟨b, 5, none⟩ v5).setCell ⟨b, 6, none⟩ v6).setCell ⟨b, 7, none⟩ v7).heap[b]? = some (.cells #[v0, v1, v2, v3, v4, v5, v6, v7, z8] T (0, 0)) := heap_setCell_same _ b 7 _ _ v7 y6
  have y8 : (((((((((w.setCell ⟨b, 0, none⟩ v0).setCell ⟨b, 1, none⟩ v1).setCell ⟨b, 2, none⟩ v2).setCell ⟨b, 3, none⟩ v3).setCell ⟨b, 4, none⟩ v4).setCell ⟨b, 5, none⟩ v5).setCell ⟨b, 6, none⟩ v6).setCell ⟨b, 7, none⟩ v7).setCell ⟨b, 8, none⟩ v8).heap[b]? = some (.cells #[v0, v1, v2, v3, v4, v5, v6, v7, v8] T (0, 0)) := heap_setCell_same _ b 8 _ _ v8 y7
  exact y8
theorem below9 {B b : Nat} {a w : World} (h : Below B a w) (hb : B ≤ b) (v0 v1 v2 v3 v4 v5 v6 v7 v8 : Value) : Below B a (((((((((w.setCell ⟨b, 0, none⟩ v0).setCell ⟨b, 1, none⟩ v1).setCell ⟨b, 2, none⟩ v2).setCell ⟨b, 3, none⟩ v3).setCell ⟨b, 4, none⟩ v4).setCell ⟨b, 5, none⟩ v5).setCell ⟨b, 6, none⟩ v6).setCell ⟨b, 7, none⟩ v7).setCell ⟨b, 8, none⟩ v8) := by
  exact (((((((((h.setCell (p := ⟨b, 0, none⟩) hb v0).setCell (p := ⟨b, 1, none⟩) hb v1).setCell (p := ⟨b, 2, none⟩) hb v2).setCell (p := ⟨b, 3, none⟩) hb v3).setCell (p := ⟨b, 4, none⟩) hb v4).setCell (p := ⟨b, 5, none⟩) hb v5).setCell (p := ⟨b, 6, none⟩) hb v6).setCell (p := ⟨b, 7, none⟩) hb v7).setCell (p := ⟨b, 8, none⟩) hb v8)
theorem kept9 {b g : Nat} {w : World} (hg : g ≠ b) (v0 v1 v2 v3 v4 v5 v6 v7 v8 : Value) : (((((((((w.setCell ⟨b, 0, none⟩ v0).setCell ⟨b, 1, none⟩ v1).setCell ⟨b, 2, none⟩ v2).setCell ⟨b, 3, none⟩ v3).setCell ⟨b, 4, none⟩ v4).setCell ⟨b, 5, none⟩ v5).setCell ⟨b, 6, none⟩ v6).setCell ⟨b, 7, none⟩ v7).setCell ⟨b, 8, none⟩ v8).heap[g]? = w.heap[g]? := by
  have q0 := heap_setCell_other w ⟨b, 0, none⟩ g v0 hg
  have q1 := heap_setCell_other (w.setCell ⟨b, 0, none⟩ v0) ⟨b, 1, none⟩ g v1 hg
  have q2 := heap_setCell_other ((w.setCell ⟨b, 0, none⟩ v0).setCell ⟨b, 1, none⟩ v1) ⟨b, 2, none⟩ g v2 hg
  have q3 := heap_setCell_other (((w.setCell ⟨b, 0, none⟩ v0).setCell ⟨b, 1, none⟩ v1).setCell ⟨b, 2, none⟩ v2) ⟨b, 3, none⟩ g v3 hg
  have q4 := heap_setCell_other ((((w.setCell ⟨b, 0, none⟩ v0).setCell ⟨b, 1, none⟩ v1).setCell ⟨b, 2, none⟩ v2).setCell ⟨b, 3, none⟩ v3) ⟨b, 4, none⟩ g v4 hg
  have q5 := heap_setCell_other (((((w.setCell ⟨b, 0, none⟩ v0).setCell ⟨b, 1, none⟩ v1).setCell ⟨b, 2, none⟩ v2).setCell ⟨b, 3, none⟩ v3).setCell ⟨b, 4, none⟩ v4) ⟨b, 5, none⟩ g v5 hg
  have q6 := heap_setCell_other ((((((w.setCell ⟨b, 0, none⟩ v0).setCell ⟨b, 1, none⟩ v1).setCell ⟨b, 2, none⟩ v2).setCell ⟨b, 3, none⟩ v3).setCell ⟨b, 4, none⟩ v4).setCell ⟨b, 5, none⟩ v5) ⟨b, 6, none⟩ g v6 hg
  have q7 := heap_setCell_other (((((((w.setCell ⟨b, 0, none⟩ v0).setCell ⟨b, 1, none⟩ v1).setCell ⟨b, 2, none⟩ v2).setCell ⟨b, 3, none⟩ v3).setCell ⟨b, 4, none⟩ v4).setCell ⟨b, 5, none⟩ v5).setCell ⟨b, 6, none⟩ v6) ⟨b, 7, none⟩ g v7 hg
  have q8 := heap_setCell_other ((((((((w.setCell ⟨b, 0, none⟩ v0).setCell ⟨b, 1, none⟩ v1).setCell ⟨b, 2, none⟩ v2).setCell ⟨b, 3, none⟩ v3).setCell ⟨b, 4, none⟩ v4).setCell ⟨b, 5, none⟩ v5).setCell ⟨b, 6, none⟩ v6).setCell ⟨b, 7, none⟩ v7) ⟨b, 8, none⟩ g v8 hg
  exact (q8.trans (q7.trans (q6.trans (q5.trans (q4.trans (q3.trans (q2.trans (q1.trans q0))))))))
theorem box9 {w : World} {b : Nat} {T : TypeId} {v0 v1 v2 v3 v4 v5 v6 v7 v8 : Value} (h : w.heap[b]? = some (.cells #[v0, v1, v2, v3, v4, v5, v6, v7, v8] T (0, 0))) : (w.cell? ⟨b, 0, none⟩ = some v0 ∧ w.cell? ⟨b, 1, none⟩ = some v1 ∧ w.cell? ⟨b, 2, none⟩ = some v2 ∧ w.cell? ⟨b, 3, none⟩ = some v3 ∧ w.cell? ⟨b, 4, none⟩ = some v4 ∧ w.cell? ⟨b, 5, none⟩ = some v5 ∧ w.cell? ⟨b, 6, none⟩ = some v6 ∧ w.cell? ⟨b, 7, none⟩ = some v7 ∧ w.cell? ⟨b, 8, none⟩ = some v8) ∧ (w.frozen? ⟨b, 0, none⟩ = false ∧ w.frozen? ⟨b, 1, none⟩ = false ∧ w.frozen? ⟨b, 2, none⟩ = false ∧ w.frozen? ⟨b, 3, none⟩ = false ∧ w.frozen? ⟨b, 4, none⟩ = false ∧ w.frozen? ⟨b, 5, none⟩ = false ∧ w.frozen? ⟨b, 6, none⟩ = false ∧ w.frozen? ⟨b, 7, none⟩ = false ∧ w.frozen? ⟨b, 8, none⟩ = false) := by
  have hc := fun k => cell_of_row w b k _ _ _ h
  exact ⟨⟨by rw [hc]; rfl, by rw [hc]; rfl, by rw [hc]; rfl, by rw [hc]; rfl, by rw [hc]; rfl, by rw [hc]; rfl, by rw [hc]; rfl, by rw [hc]; rfl, by rw [hc]; rfl⟩, frozen_of_row w b 0 _ _ h, frozen_of_row w b 1 _ _ h, frozen_of_row w b 2 _ _ h, frozen_of_row w b 3 _ _ h, frozen_of_row w b 4 _ _ h, frozen_of_row w b 5 _ _ h, frozen_of_row w b 6 _ _ h, frozen_of_row w b 7 _ _ h, frozen_of_row w b 8 _ _ h⟩

end Go.Proofs.Ytfachfimdenapaa
