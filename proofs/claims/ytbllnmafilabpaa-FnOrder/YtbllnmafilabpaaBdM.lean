/- A drawn term, bent or not: what is told of it. -/
import Derived.Test.YtbllnmafilabpaaCpM
import Derived.Test.YtbllnmafilabpaaMOf4M
import Derived.Test.YtbllnmafilabpaaDrTm2M
namespace Go.Proofs.Ytbllnmafilabpaa
open Go.RowKit
set_option linter.unusedVariables false

/-- Any term of few parts, in memory of the call's own from a block on. -/
def AnyT (w : World) (lo : Nat) (k n : Int) (s : ByteArray) (l : Value) (b : Nat) : Prop :=
  ∃ (d : Nat) (ts : List (Tm d)) (fp : List Nat), OwnL d w l ts fp ∧ (∀ g ∈ fp, lo ≤ g ∧ g < w.heap.size) ∧ WfL d ts ∧ I64 k ∧ I64 n ∧ s.size ≤ 100 ∧ cntL d ts ≤ b

theorem AnyT.frame {w w' : World} {lo : Nat} {k n : Int} {s : ByteArray} {l : Value} {b : Nat} (h : AnyT w lo k n s l b) (hb : ∀ g, lo ≤ g → g < w.heap.size → w'.heap[g]? = w.heap[g]?) (hz : w.heap.size ≤ w'.heap.size) : AnyT w' lo k n s l b := by
  obtain ⟨d, ts, fp, h1, h2, h3⟩ := h
  exact ⟨d, ts, fp, h1.frame fun g hg => hb g (h2 g hg).1 (h2 g hg).2, fun g hg => ⟨(h2 g hg).1, Nat.lt_of_lt_of_le (h2 g hg).2 hz⟩, h3⟩

theorem AnyT.low {w : World} {lo lo' : Nat} {k n : Int} {s : ByteArray} {l : Value} {b : Nat} (h : AnyT w lo k n s l b) (hl : lo' ≤ lo) : AnyT w lo' k n s l b := by
  obtain ⟨d, ts, fp, h1, h2, h3⟩ := h
  exact ⟨d, ts, fp, h1, fun g hg => ⟨Nat.le_trans hl (h2 g hg).1, (h2 g hg).2⟩, h3⟩

theorem AnyT.up {w : World} {lo : Nat} {k n : Int} {s : ByteArray} {l : Value} {b b' : Nat} (h : AnyT w lo k n s l b) (hl : b ≤ b') : AnyT w lo k n s l b' := by
  obtain ⟨d, ts, fp, h1, h2, h3, h4, h5, h6, h7⟩ := h
  exact ⟨d, ts, fp, h1, h2, h3, h4, h5, h6, by omega⟩

/-- The kind, the number and the text are others. -/
theorem AnyT.turn {w : World} {lo : Nat} {k n k' n' : Int} {s s' : ByteArray} {l : Value} {b : Nat} (h : AnyT w lo k n s l b) (hk : I64 k') (hn : I64 n') (hs : s'.size ≤ 100) : AnyT w lo k' n' s' l b := by
  obtain ⟨d, ts, fp, h1, h2, h3, _, _, _, h7⟩ := h
  exact ⟨d, ts, fp, h1, h2, h3, hk, hn, hs, h7⟩

/-- A term within another one. -/
theorem AnyT.within {w : World} {lo : Nat} {k n : Int} {s : ByteArray} {l : Value} {b : Nat} (h : AnyT w lo k n s l b) (hlo : lo ≤ w.heap.size) : AnyT (w.alloc (.cells #[.int .i64 k, .int .i64 n, .string s, l] 26)) lo 4 0 ⟨#[]⟩ (.slice (some ⟨w.heap.size, 0, none⟩) 1 1) (b + 1) := by
  obtain ⟨d, ts, fp, h1, h2, h3, h4, h5, h6, h7⟩ := h
  refine ⟨d + 1, [mkT k n s ts], w.heap.size :: [fp].flatten, .inr ⟨w.heap.size, 1, _, [fp], rfl, heap_alloc_new w _, rfl, rfl, fun i t ht => ?_⟩, fun g hg => ?_, ⟨by simp, fun t ht => ?_⟩, ⟨by omega, by omega⟩, ⟨by omega, by omega⟩, Nat.zero_le _, ?_⟩
  · cases i with
    | zero =>
      have e : t = mkT k n s ts := by simpa using ht.symm
      subst e
      exact ⟨l, fp, rfl, rfl, rfl, rfl, rfl, h1.frame fun g hg => Below.heap_alloc w _ g (h2 g hg).2⟩
    | succ i => simp at ht
  · rcases List.mem_cons.1 hg with rfl | hg
    · exact ⟨hlo, by simp⟩
    · have hg : g ∈ fp := by simpa using hg
      exact ⟨(h2 g hg).1, by have := (h2 g hg).2; simp; omega⟩
  · have e : t = mkT k n s ts := by simpa using ht
    subst e
    exact ⟨h4, h5, by show s.size ≤ maxLen; unfold maxLen; omega, h3⟩
  · rw [(one_cnt k n s ts).1]; omega

theorem sm_few : ∀ (d : Nat) (ts : List (Tm d)), (∀ u ∈ ts, SmT d u) → ts.length ≤ 3 → FewL d ts := by
  intro d
  induction d with
  | zero => intro ts h _; trivial
  | succ d ih =>
    intro ts h hl
    refine ⟨by omega, fun t ht => ?_⟩
    obtain ⟨_, _, h3, h4⟩ := h t ht
    exact ih t.L h4 h3

end Go.Proofs.Ytbllnmafilabpaa
