/- Terms copied list by list: what still waits to be copied, and what it all comes to. -/
import Derived.Test.YtjdhkhpdhblhbaaMOf4M
namespace Go.Proofs.Ytjdhkhpdhblhbaa
open Go.RowKit
set_option linter.unusedVariables false

/-- A list of terms that lies in a block of its own and whose parts still lie in the argument. -/
structure Pnd where
  g : Nat
  c : Nat
  d : Nat
  us : List (Tm (d + 1))

def Pnd.v (p : Pnd) : Value := .slice (some ⟨p.g, 0, none⟩) p.us.length p.c
def OwnP (w : World) (p : Pnd) (f : List Nat) : Prop := OwnL (p.d + 1) w p.v p.us f

/-- Lists that lie in blocks fps of one's own. -/
def OwnPs (V : World) (ps : List Pnd) (fps : List (List Nat)) : Prop := fps.length = ps.length ∧ ∀ (j : Nat) (p : Pnd) (f : List Nat), ps[j]? = some p → fps[j]? = some f → OwnP V p f

/-- Whatever comes: if the blocks S stay as they are and what waits comes to be owned, the whole is owned. -/
def Fut (D : Nat) (v : Value) (ts : List (Tm D)) (w : World) (S : List Nat) (ps : List Pnd) : Prop :=
  ∀ (V : World) (fps : List (List Nat)), (∀ b ∈ S, V.heap[b]? = w.heap[b]?) → OwnPs V ps fps → ∃ fp, OwnL D V v ts fp ∧ fp.Perm (S ++ fps.flatten)

theorem OwnPs.split {V : World} {ps qs : List Pnd} {fps : List (List Nat)} (h : OwnPs V (ps ++ qs) fps) : ∃ f1 f2, fps = f1 ++ f2 ∧ OwnPs V ps f1 ∧ OwnPs V qs f2 := by
  have hl : fps.length = ps.length + qs.length := by rw [h.1, List.length_append]
  refine ⟨fps.take ps.length, fps.drop ps.length, (List.take_append_drop ..).symm, ⟨by rw [List.length_take]; omega, fun j p f hp hf => ?_⟩, ⟨by rw [List.length_drop]; omega, fun j p f hp hf => ?_⟩⟩
  · have hj := (List.getElem?_eq_some_iff.1 hp).1
    rw [List.getElem?_take_of_lt hj] at hf
    exact h.2 j p f (by rw [List.getElem?_append_left hj]; exact hp) hf
  · rw [List.getElem?_drop] at hf
    exact h.2 (ps.length + j) p f (by rw [List.getElem?_append_right (by omega), Nat.add_sub_cancel_left]; exact hp) hf

theorem OwnPs.snoc {V : World} {ps : List Pnd} {fps : List (List Nat)} {p : Pnd} {f : List Nat} (h : OwnPs V ps fps) (hp : OwnP V p f) : OwnPs V (ps ++ [p]) (fps ++ [f]) := by
  refine ⟨by simp [h.1], fun j q e hq he => ?_⟩
  by_cases hj : j < ps.length
  · rw [List.getElem?_append_left hj] at hq
    rw [List.getElem?_append_left (by rw [h.1]; exact hj)] at he
    exact h.2 j q e hq he
  · have hl := (List.getElem?_eq_some_iff.1 hq).1
    rw [List.length_append, List.length_singleton] at hl
    obtain rfl : j = ps.length := by omega
    rw [List.getElem?_append_right (by omega), Nat.sub_self] at hq
    rw [List.getElem?_append_right (by rw [h.1]; omega), h.1, Nat.sub_self] at he
    simp only [List.getElem?_cons_zero, Option.some.injEq] at hq he
    subst hq he
    exact hp

theorem Fut.start (p : Pnd) (w : World) : Fut (p.d + 1) p.v p.us w [] [p] := by
  intro V fps _ h
  obtain ⟨hl, h2⟩ := h
  match fps, hl with
  | [f], _ => exact ⟨f, h2 0 p f rfl rfl, by simp⟩

theorem Fut.keep {D : Nat} {v : Value} {ts : List (Tm D)} {w w' : World} {S : List Nat} {ps : List Pnd} (h : Fut D v ts w S ps) (hw : ∀ b ∈ S, w'.heap[b]? = w.heap[b]?) : Fut D v ts w' S ps :=
  fun V fps hS hp => h V fps (fun b hb => (hS b hb).trans (hw b hb)) hp

theorem Fut.done {D : Nat} {v : Value} {ts : List (Tm D)} {w : World} {S : List Nat} (h : Fut D v ts w S []) : ∃ fp, OwnL D w v ts fp ∧ fp.Perm S := by
  obtain ⟨fp, h1, h2⟩ := h w [] (fun _ _ => rfl) ⟨rfl, fun j p f hp => by simp at hp⟩
  exact ⟨fp, h1, by simpa using h2⟩

/-- The first k of a row are copied, if what waits of them comes to be. -/
def RowFut (d : Nat) (us : List (Tm (d + 1))) (k : Nat) (cur : Array Value) (cs : List Pnd) : Prop :=
  ∀ (V : World) (fps : List (List Nat)), OwnPs V cs fps → ∃ fpl : List (List Nat), fpl.length = k ∧ fpl.flatten = fps.flatten ∧ Done d us k V cur fpl

theorem RowFut.zero (d : Nat) (us : List (Tm (d + 1))) (cur : Array Value) : RowFut d us 0 cur [] := by
  intro V fps h
  obtain rfl : fps = [] := List.eq_nil_of_length_eq_zero h.1
  exact ⟨[], rfl, rfl, fun i t hi => by omega⟩

/-- Four cells of a row that tell a term. -/
def CellsAt {d : Nat} (cur : Array Value) (i : Nat) (t : Tm (d + 1)) (lv : Value) : Prop :=
  cur[i * 4]? = some (.int .i64 t.K) ∧ cur[i * 4 + 1]? = some (.int .i64 t.N) ∧ cur[i * 4 + 2]? = some (.string t.S) ∧ cur[i * 4 + 3]? = some lv

theorem done_more {d : Nat} {us : List (Tm (d + 1))} {k : Nat} {cur cur' : Array Value} {V : World} {fpl : List (List Nat)} {t : Tm (d + 1)} {lv : Value} {f : List Nat} (hl : fpl.length = k) (h : Done d us k V cur fpl) (ht : us[k]? = some t) (ho : ∀ j, j < k * 4 → cur'[j]? = cur[j]?) (hc : CellsAt cur' k t lv) (hown : OwnL d V lv t.L f) : Done d us (k + 1) V cur' (fpl ++ [f]) := by
  intro i u hi hu
  by_cases hik : i < k
  · obtain ⟨lv', f', e1, e2, e3, e4, e5, e6⟩ := h i u hik hu
    refine ⟨lv', f', by rw [List.getElem?_append_left (by omega)]; exact e1, by rw [ho _ (by omega)]; exact e2, by rw [ho _ (by omega)]; exact e3, by rw [ho _ (by omega)]; exact e4, by rw [ho _ (by omega)]; exact e5, e6⟩
  · obtain rfl : i = k := by omega
    rw [ht] at hu
    obtain rfl := Option.some.inj hu
    exact ⟨lv, f, by rw [List.getElem?_append_right (by omega), hl]; simp, hc.1, hc.2.1, hc.2.2.1, hc.2.2.2, hown⟩

theorem own_nothing (d : Nat) (V : World) : OwnL d V (.slice none 0 0) ([] : List (Tm d)) [] := by
  cases d with
  | zero => exact ⟨⟨none, 0, rfl⟩, rfl⟩
  | succ d => exact .inl ⟨rfl, rfl, none, 0, rfl⟩

theorem RowFut.empty {d : Nat} {us : List (Tm (d + 1))} {k : Nat} {cur cur' : Array Value} {cs : List Pnd} {t : Tm (d + 1)} (h : RowFut d us k cur cs) (ht : us[k]? = some t) (ho : ∀ j, j < k * 4 → cur'[j]? = cur[j]?) (hc : CellsAt cur' k t (.slice none 0 0)) (hL : t.L = []) : RowFut d us (k + 1) cur' cs := by
  intro V fps hp
  obtain ⟨fpl, h1, h2, h3⟩ := h V fps hp
  refine ⟨fpl ++ [[]], by simp [h1], by simp [h2], done_more h1 h3 ht ho hc ?_⟩
  rw [hL]
  exact own_nothing d V

theorem RowFut.push {e : Nat} {us : List (Tm (e + 1 + 1))} {k g c : Nat} {cur cur' : Array Value} {cs : List Pnd} {t : Tm (e + 1 + 1)} (h : RowFut (e + 1) us k cur cs) (ht : us[k]? = some t) (ho : ∀ j, j < k * 4 → cur'[j]? = cur[j]?) (hc : CellsAt cur' k t (.slice (some ⟨g, 0, none⟩) t.L.length c)) : RowFut (e + 1) us (k + 1) cur' (cs ++ [⟨g, c, e, t.L⟩]) := by
  intro V fps hp
  obtain ⟨f1, f2, rfl, p1, p2⟩ := hp.split
  obtain ⟨fpl, h1, h2, h3⟩ := h V f1 p1
  match f2, p2.1 with
  | [f], _ =>
    refine ⟨fpl ++ [f], by simp [h1], by simp [h2], done_more h1 h3 ht ho hc (p2.2 0 _ f rfl rfl)⟩

/-- A list whose every term is copied waits no more; its parts do. -/
theorem Fut.row {D : Nat} {v : Value} {ts : List (Tm D)} {w w' : World} {S : List Nat} {rest cs : List Pnd} {p : Pnd} {cur : Array Value} (h : Fut D v ts w S (rest ++ [p])) (hg : w'.heap[p.g]? = some (.cells cur 29 (0, 0))) (hS : ∀ b ∈ S, w'.heap[b]? = w.heap[b]?) (hk : RowFut p.d p.us p.us.length cur cs) : Fut D v ts w' (S ++ [p.g]) (rest ++ cs) := by
  intro V fps hV hp
  obtain ⟨f1, f2, rfl, p1, p2⟩ := hp.split
  obtain ⟨fpl, h1, h2, h3⟩ := hk V f2 p2
  have own : OwnP V p (p.g :: fpl.flatten) := .inr ⟨p.g, p.c, cur, fpl, rfl, (hV p.g (by simp)).trans hg, h1, rfl, fun i t ht => h3 i t (List.getElem?_eq_some_iff.1 ht).1 ht⟩
  obtain ⟨fp, q1, q2⟩ := h V (f1 ++ [p.g :: fpl.flatten]) (fun b hb => (hV b (List.mem_append_left _ hb)).trans (hS b hb)) (p1.snoc own)
  refine ⟨fp, q1, q2.trans ?_⟩
  rw [List.flatten_append, List.flatten_singleton, h2, List.flatten_append, List.append_assoc, List.singleton_append]
  exact List.Perm.append_left S List.perm_middle

/-- How much waits. -/
def wk (ps : List Pnd) : Nat := (ps.map fun p => cntL (p.d + 1) p.us).sum

theorem wk_append (a b : List Pnd) : wk (a ++ b) = wk a + wk b := by unfold wk; rw [List.map_append, List.sum_append]
theorem wk_one (p : Pnd) : wk [p] = cntL (p.d + 1) p.us := by simp [wk]
theorem wk_len (ps : List Pnd) (h : ∀ p ∈ ps, p.us ≠ []) : ps.length ≤ wk ps := by
  induction ps with
  | nil => exact Nat.zero_le _
  | cons p ps ih =>
    have h1 := ih fun q hq => h q (List.mem_cons_of_mem _ hq)
    have h2 := len_cnt p.us
    have h3 : 0 < p.us.length := List.length_pos_iff.2 (h p (List.mem_cons_self ..))
    have h4 : wk (p :: ps) = wk [p] + wk ps := wk_append [p] ps
    rw [h4, wk_one, List.length_cons]
    omega
end Go.Proofs.Ytjdhkhpdhblhbaa
