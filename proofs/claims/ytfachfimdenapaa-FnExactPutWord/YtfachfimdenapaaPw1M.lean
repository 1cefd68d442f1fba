/- A worker with one storey more; the row by which it is copied. -/
import Derived.Test.YtfachfimdenapaaCv2M
import Derived.Test.YtfachfimdenapaaDtWorkerM
import Derived.Test.YtfachfimdenapaaOw4M
namespace Go.Proofs.Ytfachfimdenapaa
open Go.RowKit
set_option linter.unusedVariables false

theorem conv_rdl {d e : Nat} {ts : List (Tm d)} (hd : d ≤ e) {w : World} {v : Value} (h : RdL d w v ts) : RdL e w v (conv d e ts) := (conv_ok d e ts (by have := depL_le_d d ts; omega)).2.1 w v h
theorem conv_wf {d e : Nat} {ts : List (Tm d)} (hd : d ≤ e) (h : WfL d ts) : WfL e (conv d e ts) := (conv_ok d e ts (by have := depL_le_d d ts; omega)).2.2.1 h
theorem conv_cnt {d e : Nat} {ts : List (Tm d)} (hd : d ≤ e) : cntL e (conv d e ts) = cntL d ts := (conv_ok d e ts (by have := depL_le_d d ts; omega)).2.2.2.2.2.1
theorem conv_len {d e : Nat} {ts : List (Tm d)} (hd : d ≤ e) : (conv d e ts).length = ts.length := (conv_ok d e ts (by have := depL_le_d d ts; omega)).1

/-- A worker with one storey more. -/
def upW {d : Nat} (x : DWorker d) : DWorker (d + 1) := ⟨x.Pid, x.Name, x.Mod, x.No, cv1 d (d + 1) x.State, conv (d + 1) (d + 1 + 1) x.Box⟩

theorem WorkerR.up {d : Nat} {w : World} {vs : List Value} {x : DWorker d} (h : WorkerR d w vs x) : WorkerR (d + 1) w vs (upW x) := by
  obtain ⟨v4, v5, v6, v7, v8, rfl, ⟨lv, e, h1⟩, h2⟩ := h
  exact ⟨v4, v5, v6, v7, v8, rfl, ⟨lv, e, conv_rdl (by omega) h1⟩, conv_rdl (by omega) h2⟩

theorem WfWorker.up {d : Nat} {x : DWorker d} (h : WfWorker d x) : WfWorker (d + 1) (upW x) :=
  ⟨h.1, h.2.1, h.2.2.1, h.2.2.2.1, ⟨h.2.2.2.2.1.1, h.2.2.2.2.1.2.1, h.2.2.2.2.1.2.2.1, conv_wf (by omega) h.2.2.2.2.1.2.2.2⟩, conv_wf (by omega) h.2.2.2.2.2⟩

/-- The list whose parts are what a worker has. -/
def lsW {d : Nat} (x : DWorker d) : List (Tm (d + 1 + 1)) := [mkT 0 0 x.Name [], mkT 0 0 x.Mod [], cv1 d (d + 1) x.State, mkT 0 0 ⟨#[]⟩ x.Box]

theorem lsW_cnt {d : Nat} (x : DWorker d) : cntL (d + 1 + 1) (lsW x) = 4 + cntL d x.State.L + cntL (d + 1) x.Box := by
  have h0 : cntL (d + 1) ([] : List (Tm (d + 1))) = 0 := cntL_nil _
  have e1 : cntL (d + 1) (cv1 d (d + 1) x.State).L = cntL d x.State.L := conv_cnt (by omega)
  show (List.map _ _).sum = _
  simp only [lsW, List.map_cons, List.map_nil, List.sum_cons, List.sum_nil]
  rw [e1]
  show 1 + cntL (d + 1) [] + (1 + cntL (d + 1) [] + (1 + cntL d x.State.L + (1 + cntL (d + 1) x.Box + 0))) = _
  rw [h0]
  omega

/-- The row as it is read. -/
theorem lsW_rdq {d : Nat} {x : DWorker d} {w : World} {g : Nat} {c : Nat} {v7 v8 : Value} (hg : w.heap[g]? = some (.cells #[.int .i64 0, .int .i64 0, .string x.Name, .slice none 0 0, .int .i64 0, .int .i64 0, .string x.Mod, .slice none 0 0, .int .i64 x.State.K, .int .i64 x.State.N, .string x.State.S, v7, .int .i64 0, .int .i64 0, .string ⟨#[]⟩, v8] 31 (0, 0)))
    (h7 : RdQ d w v7 x.State.L) (h8 : RdQ (d + 1) w v8 x.Box) : RdQ (d + 1 + 1) w (.slice (some ⟨g, 0, none⟩) 4 c) (lsW x) := by
  have hc := fun k => cell_of_row w g k _ _ _ hg
  refine ⟨_, c, rfl, fun i t ht => ?_⟩
  match i, ht with
  | 0, ht =>
    obtain rfl : mkT 0 0 x.Name [] = t := by simpa [lsW] using ht
    exact ⟨g, 0, _, rfl, ⟨_, _, hg⟩, ⟨by rw [hc]; rfl, by rw [hc]; rfl, by rw [hc]; rfl, by rw [hc]; rfl⟩, ⟨none, 0, rfl, fun i t h => by cases h⟩⟩
  | 1, ht =>
    obtain rfl : mkT 0 0 x.Mod [] = t := by simpa [lsW] using ht
    exact ⟨g, 0, _, rfl, ⟨_, _, hg⟩, ⟨by rw [hc]; rfl, by rw [hc]; rfl, by rw [hc]; rfl, by rw [hc]; rfl⟩, ⟨none, 0, rfl, fun i t h => by cases h⟩⟩
  | 2, ht =>
    obtain rfl : cv1 d (d + 1) x.State = t := by simpa [lsW] using ht
    exact ⟨g, 0, _, rfl, ⟨_, _, hg⟩, ⟨by rw [hc]; rfl, by rw [hc]; rfl, by rw [hc]; rfl, by rw [hc]; rfl⟩, conv_rdq d (d + 1) x.State.L (by omega) _ _ h7⟩
  | 3, ht =>
    obtain rfl : mkT 0 0 ⟨#[]⟩ x.Box = t := by simpa [lsW] using ht
    exact ⟨g, 0, _, rfl, ⟨_, _, hg⟩, ⟨by rw [hc]; rfl, by rw [hc]; rfl, by rw [hc]; rfl, by rw [hc]; rfl⟩, h8⟩
  | i + 4, ht => simp [lsW] at ht

/-- The row as it comes back, opened. -/
theorem lsW_open {d : Nat} {x : DWorker d} {w : World} {g c : Nat} {fp : List Nat} (h : OwnL (d + 1 + 1) w (.slice (some ⟨g, 0, none⟩) 4 c) (lsW x) fp) :
    ∃ cur a7 l7 c7 a8 l8 c8 f7 f8 fa fb, w.heap[g]? = some (.cells cur 31 (0, 0)) ∧ fp = g :: (fa ++ (fb ++ (f7 ++ f8))) ∧ cur[2]? = some (.string x.Name) ∧ cur[6]? = some (.string x.Mod) ∧ cur[8]? = some (.int .i64 x.State.K) ∧ cur[9]? = some (.int .i64 x.State.N) ∧ cur[10]? = some (.string x.State.S) ∧ cur[11]? = some (.slice a7 l7 c7) ∧ cur[15]? = some (.slice a8 l8 c8) ∧
      OwnL (d + 1) w (.slice a7 l7 c7) (conv d (d + 1) x.State.L) f7 ∧ OwnL (d + 1 + 1) w (.slice a8 l8 c8) (conv (d + 1) (d + 1 + 1) x.Box) f8 := by
  rcases h with ⟨h, _⟩ | ⟨g', c', cur, fps, h1, h2, h3, rfl, h4⟩
  · simp [lsW] at h
  · simp only [Value.slice.injEq, Option.some.injEq, Addr.mk.injEq, and_true] at h1
    obtain ⟨rfl, _⟩ := h1
    obtain ⟨v0, q0, a0, a1, a2, a3, a4, a5⟩ := h4 0 _ rfl
    obtain ⟨v1, q1, b0, b1, b2, b3, b4, b5⟩ := h4 1 _ rfl
    obtain ⟨v2, q2, c0, c1, c2, c3, c4, c5⟩ := h4 2 _ rfl
    obtain ⟨v3, q3, d0, d1, d2, d3, d4, d5⟩ := h4 3 _ rfl
    obtain ⟨x7, y7, z7, rfl⟩ := c5.rd.shape
    obtain ⟨x8, y8, z8, rfl⟩ := d5.rd.shape
    have hfl : fps = [q0, q1, q2, q3] := by
      have hl : fps.length = 4 := h3
      match fps, hl with
      | [r0, r1, r2, r3], _ =>
        simp at a0 b0 c0 d0
        rw [a0, b0, c0, d0]
    refine ⟨cur, x7, y7, z7, x8, y8, z8, q2, q3, q0, q1, h2, by rw [hfl]; simp, a3, b3, c1, c2, c3, c4, d4, c5, conv_own (d + 1) (d + 1 + 1) x.Box (by omega) _ _ _ d5⟩

end Go.Proofs.Ytfachfimdenapaa
