/- The walk through a term: what it comes to. -/
import Derived.Test.YthjmbbpakidkdaaMOf2b
import Derived.Test.YthjmbbpakidkdaaMOf3
import Derived.Test.YthjmbbpakidkdaaSGet2
import Derived.Deep.RegionWith
namespace Go.Proofs.Ythjmbbpakidkdaa
open Go.RowKit
set_option linter.unusedVariables false

/-- The cells of what is under way, the outermost first. -/
def fcells (fs : List Frm) : List Value := (fs.reverse.map fun f => [f.1, .int .i64 (f.2.1 : Nat), .int .i64 (f.2.2.1 : Nat), .int .i64 (f.2.2.2 : Nat)]).flatten

theorem fcells_cons (f : Frm) (fs : List Frm) : fcells (f :: fs) = fcells fs ++ [f.1, .int .i64 (f.2.1 : Nat), .int .i64 (f.2.2.1 : Nat), .int .i64 (f.2.2.2 : Nat)] := by
  unfold fcells
  simp

theorem fcells_len (fs : List Frm) : (fcells fs).length = fs.length * 4 := by
  induction fs with
  | nil => rfl
  | cons f fs ih => rw [fcells_cons, List.length_append, ih]; simp only [List.length_cons, List.length_nil]; omega

/-- The row of what is under way: its block, and where the top stands in it. -/
theorem row_top {w : World} {B : Nat} {v : Value} {f : Frm} {fs : List Frm} (h : w.ownsRow B 187 4 v (fs.length + 1) (fcells (f :: fs))) : ∃ g cap cur, v = .slice (some ⟨g, 0, none⟩) (fs.length + 1) cap ∧ B ≤ g ∧ w.heap[g]? = some (.cells cur 187 (0, 0)) ∧ fs.length + 1 ≤ cap ∧ cap ≤ maxLen ∧ cur.size = cap * 4 ∧ cur.toList.take ((fs.length + 1) * 4) = fcells (f :: fs) ∧
    cur[fs.length * 4]? = some f.1 ∧ cur[fs.length * 4 + 1]? = some (.int .i64 (f.2.1 : Nat)) ∧ cur[fs.length * 4 + 2]? = some (.int .i64 (f.2.2.1 : Nat)) ∧ cur[fs.length * 4 + 3]? = some (.int .i64 (f.2.2.2 : Nat)) := by
  rcases h.2 with ⟨_, h0⟩ | ⟨g, cap, cur, e1, e2, e3, e4, e5, e6, e7⟩
  · omega
  · have hj : ∀ j u, [f.1, .int .i64 (f.2.1 : Nat), .int .i64 (f.2.2.1 : Nat), .int .i64 (f.2.2.2 : Nat)][j]? = some u → cur[fs.length * 4 + j]? = some u := by
      intro j u hu
      have hjl : j < 4 := by
        have := (List.getElem?_eq_some_iff.1 hu).1
        simpa using this
      have h1 : (cur.toList.take ((fs.length + 1) * 4))[fs.length * 4 + j]? = some u := by
        rw [e7, fcells_cons, List.getElem?_append_right (by rw [fcells_len]; omega), fcells_len, show fs.length * 4 + j - fs.length * 4 = j from by omega]
        exact hu
      rw [List.getElem?_take_of_lt (by omega)] at h1
      simpa using h1
    exact ⟨g, cap, cur, e1, e2, e3, e4, e5, e6, e7, hj 0 _ rfl, hj 1 _ rfl, hj 2 _ rfl, hj 3 _ rfl⟩

/-- The top's numbers turn. -/
theorem row_turn {w w' : World} {B g cap : Nat} {cur cur' : Array Value} {f f' : Frm} {fs : List Frm} (hB : B ≤ g) (h1 : w.heap[g]? = some (.cells cur 187 (0, 0))) (h2 : fs.length + 1 ≤ cap) (h3 : cap ≤ maxLen) (h4 : cur.size = cap * 4) (h5 : cur.toList.take ((fs.length + 1) * 4) = fcells (f :: fs))
    (h6 : w'.heap[g]? = some (.cells cur' 187 (0, 0))) (h7 : cur'.size = cur.size) (h8 : ∀ j, j < fs.length * 4 → cur'[j]? = cur[j]?) (k0 : cur'[fs.length * 4]? = some f'.1) (k1 : cur'[fs.length * 4 + 1]? = some (.int .i64 (f'.2.1 : Nat))) (k2 : cur'[fs.length * 4 + 2]? = some (.int .i64 (f'.2.2.1 : Nat))) (k3 : cur'[fs.length * 4 + 3]? = some (.int .i64 (f'.2.2.2 : Nat))) :
    w'.ownsRow B 187 4 (.slice (some ⟨g, 0, none⟩) (fs.length + 1) cap) (fs.length + 1) (fcells (f' :: fs)) := by
  refine ⟨by rw [fcells_len]; rfl, .inr ⟨g, cap, cur', rfl, hB, h6, h2, h3, h7.trans h4, ?_⟩⟩
  rw [fcells_cons]
  apply List.ext_getElem?
  intro j
  rw [fcells_cons] at h5
  by_cases hj : j < fs.length * 4
  · rw [List.getElem?_take_of_lt (by omega), List.getElem?_append_left (by rw [fcells_len]; exact hj)]
    have := congrArg (fun l => l[j]?) h5
    rw [List.getElem?_take_of_lt (by omega), List.getElem?_append_left (by rw [fcells_len]; exact hj)] at this
    rw [← this]
    have := h8 j hj
    simpa using this
  · rw [List.getElem?_append_right (by rw [fcells_len]; omega), fcells_len]
    by_cases hj2 : j < (fs.length + 1) * 4
    · rw [List.getElem?_take_of_lt hj2]
      rcases (by omega : j = fs.length * 4 ∨ j = fs.length * 4 + 1 ∨ j = fs.length * 4 + 2 ∨ j = fs.length * 4 + 3) with rfl | rfl | rfl | rfl
      · rw [Nat.sub_self]; simpa using k0
      · rw [Nat.add_sub_cancel_left]; simpa using k1
      · rw [Nat.add_sub_cancel_left]; simpa using k2
      · rw [Nat.add_sub_cancel_left]; simpa using k3
    · rw [List.getElem?_eq_none (by rw [List.length_take]; omega), List.getElem?_eq_none (by simp only [List.length_cons, List.length_nil]; omega)]

/-- The top goes. -/
theorem row_pop {w : World} {B g cap : Nat} {cur : Array Value} {f : Frm} {fs : List Frm} (hB : B ≤ g) (h1 : w.heap[g]? = some (.cells cur 187 (0, 0))) (h2 : fs.length + 1 ≤ cap) (h3 : cap ≤ maxLen) (h4 : cur.size = cap * 4) (h5 : cur.toList.take ((fs.length + 1) * 4) = fcells (f :: fs)) :
    w.ownsRow B 187 4 (.slice (some ⟨g, 0, none⟩) fs.length cap) fs.length (fcells fs) := by
  refine ⟨fcells_len fs, .inr ⟨g, cap, cur, rfl, hB, h1, by omega, h3, h4, ?_⟩⟩
  have := congrArg (List.take (fs.length * 4)) h5
  rw [List.take_take, Nat.min_eq_left (by omega), fcells_cons, List.take_append_of_le_length (by rw [fcells_len]; exact Nat.le_refl _)] at this
  rw [this, List.take_of_length_le (by rw [fcells_len]; exact Nat.le_refl _)]

end Go.Proofs.Ythjmbbpakidkdaa
