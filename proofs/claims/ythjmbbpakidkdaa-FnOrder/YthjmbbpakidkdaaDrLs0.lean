/- Drawn terms of three storeys, in blocks of a known stretch. -/
import Derived.Test.YthjmbbpakidkdaaBd4
import Derived.Test.YthjmbbpakidkdaaLess
namespace Go.Proofs.Ythjmbbpakidkdaa
open Go.RowKit
set_option linter.unusedVariables false

/-- A small right term whose blocks lie from lo up to hi. -/
def Own3 (lo hi : Nat) (w : World) (k n : Int) (s : ByteArray) (l : Value) : Prop :=
  ∃ (ts : List (Tm 2)) (fp : List Nat), OwnL 2 w l ts fp ∧ (fp.Nodup ∧ ∀ g ∈ fp, lo ≤ g ∧ g < hi) ∧ WfL 2 ts ∧ I64 k ∧ I64 n ∧ s.size ≤ maxLen ∧ SmT 3 (mk k n s ts)

/-- The same, to be read alone. -/
def Rd3 (lo hi : Nat) (w : World) (k n : Int) (s : ByteArray) (l : Value) : Prop :=
  ∃ (ts : List (Tm 2)) (fp : List Nat), OwnL 2 w l ts fp ∧ (∀ g ∈ fp, lo ≤ g ∧ g < hi) ∧ WfL 2 ts ∧ I64 k ∧ I64 n ∧ s.size ≤ maxLen ∧ SmT 3 (mk k n s ts)

theorem Own3.rd3 {lo hi : Nat} {w : World} {k n : Int} {s : ByteArray} {l : Value} (h : Own3 lo hi w k n s l) : Rd3 lo hi w k n s l := by
  obtain ⟨ts, fp, h1, h2, h3⟩ := h
  exact ⟨ts, fp, h1, h2.2, h3⟩
theorem Own3.frame {lo hi : Nat} {w w' : World} {k n : Int} {s : ByteArray} {l : Value} (h : Own3 lo hi w k n s l) (hf : ∀ g, lo ≤ g → g < hi → w'.heap[g]? = w.heap[g]?) : Own3 lo hi w' k n s l := by
  obtain ⟨ts, fp, h1, h2, h3⟩ := h
  exact ⟨ts, fp, h1.frame fun g hg => hf g (h2.2 g hg).1 (h2.2 g hg).2, h2, h3⟩
theorem Rd3.frame {lo hi : Nat} {w w' : World} {k n : Int} {s : ByteArray} {l : Value} (h : Rd3 lo hi w k n s l) (hf : ∀ g, lo ≤ g → g < hi → w'.heap[g]? = w.heap[g]?) : Rd3 lo hi w' k n s l := by
  obtain ⟨ts, fp, h1, h2, h3⟩ := h
  exact ⟨ts, fp, h1.frame fun g hg => hf g (h2 g hg).1 (h2 g hg).2, h2, h3⟩
theorem Own3.wide {lo hi lo' hi' : Nat} {w : World} {k n : Int} {s : ByteArray} {l : Value} (h : Own3 lo hi w k n s l) (h1 : lo' ≤ lo) (h2 : hi ≤ hi') : Own3 lo' hi' w k n s l := by
  obtain ⟨ts, fp, h3, h4, h5⟩ := h
  exact ⟨ts, fp, h3, ⟨h4.1, fun g hg => by have := h4.2 g hg; omega⟩, h5⟩
theorem Rd3.wide {lo hi lo' hi' : Nat} {w : World} {k n : Int} {s : ByteArray} {l : Value} (h : Rd3 lo hi w k n s l) (h1 : lo' ≤ lo) (h2 : hi ≤ hi') : Rd3 lo' hi' w k n s l := by
  obtain ⟨ts, fp, h3, h4, h5⟩ := h
  exact ⟨ts, fp, h3, fun g hg => by have := h4 g hg; omega, h5⟩

theorem own_draw {p len cap : Nat} {a : Option Addr} {w w' : World} {k n : Int} {s : ByteArray} {av : Option Addr} {l c : Nat} (h : DPost 3 p a len cap w w' (.agg #[.int .i64 k, .int .i64 n, .string s, .slice av l c])) : Own3 w.heap.size w'.heap.size w' k n s (.slice av l c) ∧ Cur w' p a len cap ∧ w.grownBy w' (some p) := by
  obtain ⟨hc, hg, t, fp, hown, hfr, hwf, hsm⟩ := h
  obtain ⟨a', l', c', ev, hown⟩ := hown
  simp only [Value.agg.injEq] at ev
  have ev2 : ([.int .i64 k, .int .i64 n, .string s, .slice av l c] : List Value) = [.int .i64 t.K, .int .i64 t.N, .string t.S, .slice a' l' c'] := by simpa using congrArg Array.toList ev
  simp only [List.cons.injEq, Value.int.injEq, Value.string.injEq, Value.slice.injEq, true_and, and_true] at ev2
  obtain ⟨rfl, rfl, rfl, rfl, rfl, rfl⟩ := ev2
  exact ⟨⟨t.L, fp, hown, hfr, hwf.2.2.2, hwf.1, hwf.2.1, hwf.2.2.1, hsm⟩, hc, hg⟩

/-- An element of a list is set anew. -/
theorem own_set {d : Nat} {w : World} {v : Value} {ts : List (Tm (d + 1))} {fp : List Nat} (h : OwnL (d + 1) w v ts fp) (hnd : fp.Nodup) (i : Nat) (hi : i < ts.length) :
    ∃ g c cur, v = .slice (some ⟨g, 0, none⟩) ts.length c ∧ w.heap[g]? = some (.cells cur 26 (0, 0)) ∧ i * 4 + 3 < cur.size ∧ g ∈ fp ∧
      ∀ (w' : World) (t' : Tm (d + 1)) (lv' : Value) (f' : List Nat), w'.heap[g]? = some (.cells (put4 cur (i * 4) (.int .i64 t'.K) (.int .i64 t'.N) (.string t'.S) lv') 26 (0, 0)) → (∀ j ∈ fp, j ≠ g → w'.heap[j]? = w.heap[j]?) → OwnL d w' lv' t'.L f' →
        ∃ fp', OwnL (d + 1) w' v (ts.set i t') fp' ∧ ∀ x ∈ fp', x ∈ fp ∨ x ∈ f' := by
  rcases h with ⟨rfl, _⟩ | ⟨g, c, cur, fps, h1, h2, h3, h4, h5⟩
  · simp at hi
  · obtain ⟨lv0, f0, e1, e2, e3, e4, e5, e6⟩ := h5 i ts[i] (List.getElem?_eq_getElem hi)
    have hs : i * 4 + 3 < cur.size := by
      rcases Nat.lt_or_ge (i * 4 + 3) cur.size with h | h
      · exact h
      · rw [Array.getElem?_eq_none h] at e5; cases e5
    refine ⟨g, c, cur, h1, h2, hs, by rw [h4]; exact List.mem_cons_self .., fun w' t' lv' f' n1 n2 n3 => ⟨g :: (fps.set i f').flatten, .inr ⟨g, c, _, fps.set i f', by rw [List.length_set]; exact h1, n1, by simp [h3], rfl, ?_⟩, ?_⟩⟩
    · intro j t ht
      obtain ⟨p0, p1, p2, p3⟩ := put4_at cur (i * 4) (.int .i64 t'.K) (.int .i64 t'.N) (.string t'.S) lv' hs
      by_cases hij : i = j
      · subst hij
        rw [List.getElem?_set_self hi] at ht
        obtain rfl : t' = t := by simpa using ht
        exact ⟨lv', f', by rw [List.getElem?_set_self (by omega)], p0, p1, p2, p3, n3⟩
      · rw [List.getElem?_set_ne hij] at ht
        obtain ⟨lv1, f1, q1, q2, q3, q4, q5, q6⟩ := h5 j t ht
        refine ⟨lv1, f1, by rw [List.getElem?_set_ne hij]; exact q1, ?_, ?_, ?_, ?_, q6.frame fun x hx => n2 x (by rw [h4]; exact List.mem_cons_of_mem _ (List.mem_flatten.2 ⟨f1, List.mem_of_getElem? q1, hx⟩)) ?_⟩
        · rw [put4_other _ _ _ _ _ _ _ (by omega)]; exact q2
        · rw [put4_other _ _ _ _ _ _ _ (by omega)]; exact q3
        · rw [put4_other _ _ _ _ _ _ _ (by omega)]; exact q4
        · rw [put4_other _ _ _ _ _ _ _ (by omega)]; exact q5
        · rintro rfl
          rw [h4] at hnd
          exact (List.nodup_cons.1 hnd).1 (List.mem_flatten.2 ⟨f1, List.mem_of_getElem? q1, hx⟩)
    · intro x hx
      rcases List.mem_cons.1 hx with rfl | hx
      · exact .inl (by rw [h4]; exact List.mem_cons_self ..)
      · obtain ⟨f1, hf, hx1⟩ := List.mem_flatten.1 hx
        rcases List.mem_or_eq_of_mem_set hf with hf | rfl
        · exact .inl (by rw [h4]; exact List.mem_cons_of_mem _ (List.mem_flatten.2 ⟨f1, hf, hx1⟩))
        · exact .inr hx1

theorem wf_set {d : Nat} {ts : List (Tm (d + 1))} {i : Nat} {t' : Tm (d + 1)} (h : WfL (d + 1) ts) (ht : WfT (d + 1) t') : WfL (d + 1) (ts.set i t') :=
  ⟨by rw [List.length_set]; exact h.1, fun t hm => by
    rcases List.mem_or_eq_of_mem_set hm with hm | rfl
    · exact h.2 t hm
    · exact ht⟩

/-- The element set anew, at a term of three storeys. -/
theorem Own3.set {lo hi : Nat} {w : World} {k n : Int} {s : ByteArray} {a : Option Addr} {len c : Nat} (h : Own3 lo hi w k n s (.slice a len c)) (i : Nat) (hi' : i < len) : len ≤ 3 ∧
    ∃ g cur, a = some ⟨g, 0, none⟩ ∧ w.heap[g]? = some (.cells cur 26 (0, 0)) ∧ i * 4 + 3 < cur.size ∧ lo ≤ g ∧ g < hi ∧
      ∀ (w' : World) (t' : Tm 2) (lv' : Value) (f' : List Nat), w'.heap[g]? = some (.cells (put4 cur (i * 4) (.int .i64 t'.K) (.int .i64 t'.N) (.string t'.S) lv') 26 (0, 0)) → (∀ j, lo ≤ j → j < hi → j ≠ g → w'.heap[j]? = w.heap[j]?) → OwnL 1 w' lv' t'.L f' → WfT 2 t' → SmT 2 t' → (∀ j ∈ f', lo ≤ j ∧ j < w'.heap.size) → hi ≤ w'.heap.size → Rd3 lo w'.heap.size w' k n s (.slice a len c) := by
  obtain ⟨ts, fp, h1, h2, h3, h4, h5, h6, h7⟩ := h
  obtain ⟨a0, c0, e0⟩ := h1.rd.len
  simp only [Value.slice.injEq] at e0
  obtain ⟨rfl, rfl, rfl⟩ := e0
  obtain ⟨g, c, cur, e1, e2, e3, e4, e5⟩ := own_set h1 h2.1 i hi'
  simp only [Value.slice.injEq, true_and] at e1
  obtain ⟨rfl, rfl⟩ := e1
  refine ⟨h7.2.2.1, g, cur, rfl, e2, e3, (h2.2 g e4).1, (h2.2 g e4).2, fun w' t' lv' f' m1 m2 m3 m4 m5 m6 m7 => ?_⟩
  obtain ⟨fp', q1, q2⟩ := e5 w' t' lv' f' m1 (fun j hj hne => m2 j (h2.2 j hj).1 (h2.2 j hj).2 hne) m3
  refine ⟨ts.set i t', fp', q1, fun x hx => ?_, wf_set h3 m4, h4, h5, h6, ?_⟩
  · rcases q2 x hx with hx | hx
    · have := h2.2 x hx; omega
    · exact m6 x hx
  · obtain ⟨s1, s2, s3, s4⟩ := h7
    refine ⟨?_, s2, ?_, fun u hu => ?_⟩
    · show Shape k n s (ts.set i t').length
      rw [List.length_set]; exact s1
    · show (ts.set i t').length ≤ 3
      rw [List.length_set]; exact s3
    · rcases List.mem_or_eq_of_mem_set (show u ∈ ts.set i t' from hu) with hu | rfl
      · exact s4 u hu
      · exact m5

end Go.Proofs.Ythjmbbpakidkdaa
