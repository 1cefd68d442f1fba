/- The program's takenSame of lists of Ins: empty ones, and two that were never met. -/
import Derived.Test.YtahmbnokjfkfiaaSvI
namespace Go.Proofs.Ytahmbnokjfkfiaa
open Go.RowKit
set_option linter.unusedVariables false

set_option maxRecDepth 100000 in
theorem takenI_none (p : Nat) (a : Option Addr) (la ca : Nat) (b : Option Addr) (lb cb : Nat) (w : World) (h : la = 0 ∨ lb = 0) (h1 : la ≤ 1048576) (h2 : lb ≤ 1048576) :
    Calls Try.prog 36 #[.pointer (some ⟨p, 0, none⟩), .slice a la ca, .slice b lb cb] w fun e w' => e = .returned (.bool (decide (la = lb))) ∧ w = w' := by
  by_cases ha : la = 0
  · subst ha
    by_cases hb : lb = 0
    · subst hb
      go_enter Try.func36, Try.ntmps36
      go_wp2_with fail
      go_ret
      exact ⟨rfl, rfl⟩
    · have hb' : ((0 : Int) == (lb : Int)) = false := by simp; omega
      have hd : decide (0 = lb) = false := decide_eq_false (fun e => hb e.symm)
      rw [hd]
      clear h
      go_enter Try.func36, Try.ntmps36
      go_wp2_with fail
      go_ret
      exact ⟨rfl, rfl⟩
  · obtain rfl : lb = 0 := by omega
    have ha' : ((la : Int) == 0) = false := by simp; omega
    have hd : decide (la = 0) = false := decide_eq_false ha
    rw [hd]
    clear h
    go_enter Try.func36, Try.ntmps36
    go_wp2_with fail
    go_ret
    exact ⟨rfl, rfl⟩

set_option maxRecDepth 100000 in
set_option maxHeartbeats 2000000 in
theorem takenI_new {W wr : World} {p met nu : Nat} {pv uv tv : Value} {TT : TypeId} {f : Addr → Int → Option Value} {fs : List Tg} {K : List (Nat × Obj)} (h : Sv 80 TT W wr p met nu pv uv tv f fs K) (g l c g' l' c' : Nat) (hl : 0 < l) (hl' : 0 < l') (hb : l ≤ 1048576) (hb' : l' ≤ 1048576) (cur cur' : Array Value) (t t' : TypeId) (hg : W.heap[g]? = some (.cells cur t (0, 0))) (hg' : W.heap[g']? = some (.cells cur' t' (0, 0))) (hgp : g ≠ p) (hgp' : g' ≠ p) (hgg : g ≠ g') (hf : ∀ n, f ⟨g, 0, none⟩ n = none) (hf' : ∀ n, f ⟨g', 0, none⟩ n = none) (hm : met ≤ 16777216) (hnu : nu ≤ 2 * met) :
    Calls Try.prog 36 #[.pointer (some ⟨p, 0, none⟩), .slice (some ⟨g, 0, none⟩) l c, .slice (some ⟨g', 0, none⟩) l' c'] wr fun e w' => e = .returned (.bool false) ∧ Hid (∃ nu' pv' uv' f', Sv 80 TT W w' p (met + 1) nu' pv' uv' tv f' fs K ∧ nu' ≤ 2 * (met + 1) ∧ ∀ x n v, f' x n = some v → f x n = some v ∨ x.block = g ∨ x.block = g') := by
  have HJ : Hid (∀ V : World, Below wr.heap.size wr V → _) := fun V hV => joinI_new (h.later hV) g l g' l' cur cur' t t' hg hg' hgp hgp' hgg hf hf' hm hnu
  have h1 : ((l : Int) == 0) = false := by simp; omega
  have h2 : ((l' : Int) == 0) = false := by simp; omega
  have h3 : (0 : Int) < (l : Int) := by omega
  have h4 : (0 : Int) < (l' : Int) := by omega
  clear h hg hg' hgp hgp' hgg hf hf' hm hnu
  go_enter Try.func36, Try.ntmps36
  go_wp2_with fail
  refine (spotOfI_any g 0 l c _ hl (by omega)).mono ?_
  rintro e w1 ⟨rfl, hb1⟩
  go_wp2_with fail
  refine (spotOfI_any g' 0 l' c' _ hl' (by omega)).mono ?_
  rintro e w2 ⟨rfl, hb2⟩
  have hb3 : Below wr.heap.size wr w2 := hb1.trans (hb2.mono hb1.size)
  clear hb1 hb2
  go_wp2_with fail
  refine (HJ.out w2 hb3).mono ?_
  rintro e w3 ⟨rfl, HQ⟩
  clear HJ hb3
  go_wp2_with fail
  go_ret
  exact ⟨rfl, HQ.out⟩

end Go.Proofs.Ytahmbnokjfkfiaa
