/- The program's sort of terms. -/
import Derived.Test.YtjdhkhpdhblhbaaSo3M
import Derived.Test.YtjdhkhpdhblhbaaOw4M
import Derived.Test.YtjdhkhpdhblhbaaDrGtM
import Derived.Laws.AppendOwnNone
namespace Go.Proofs.Ytjdhkhpdhblhbaa
open Go.RowKit
set_option linter.unusedVariables false

theorem sm2_ok {x : Tm 2} (h : SmT 2 x) : OkT 2 x := ⟨h.1, sm_ok 1 x.L h.2.2.2⟩

theorem roots2 {w : World} {x y : Tm 2} {lx ly : Value} (h1 : RdL 1 w lx x.L) (h2 : RdL 1 w ly y.L) (m1 : SmT 2 x) (m2 : SmT 2 y) :
    RootsOk w x.K x.N x.S lx y.K y.N y.S ly (1 + cntL 1 x.L) (Lt 2 x y) (x = y) ∧ 1 + cntL 1 x.L ≤ 300 := by
  refine ⟨⟨1, x.L, y.L, h1, h2, m1.1, m2.1, sm_ok 1 x.L m1.2.2.2, sm_ok 1 y.L m2.2.2.2, rfl, Iff.rfl, Iff.rfl⟩, ?_⟩
  have := sm_cnt 1 x.L m1.2.2.2 m1.2.2.1
  have h4 : (4 : Nat) ^ 1 = 4 := by decide
  omega

theorem cmp_sm : CmpC 1 (SmT 2) := by
  intro x y hx hy
  have key : ∀ r : Int, (∀ r' : Int, ((r' < 0 ↔ Lt 2 x y) ∧ (r' = 0 ↔ x = y)) ∧ -1 ≤ r' ∧ r' ≤ 1 → r' = r) → ∀ (a : Option Addr) (l c : Nat) (a2 : Option Addr) (l2 c2 : Nat) (w : World), RdL 1 w (.slice a l c) x.L → RdL 1 w (.slice a2 l2 c2) y.L →
      Calls Try.prog 54 #[.agg #[.int .i64 x.K, .int .i64 x.N, .string x.S, .slice a l c], .agg #[.int .i64 y.K, .int .i64 y.N, .string y.S, .slice a2 l2 c2]] w fun e w' => e = .returned (.int .i64 r) ∧ Below w.heap.size w w' := by
    intro r hr a l c a2 l2 c2 w h1 h2
    obtain ⟨hR, hC⟩ := roots2 h1 h2 hx hy
    refine (orderOf_any _ _ _ a l c _ _ _ a2 l2 c2 _ _ _ w hR hC).mono ?_
    rintro e w' ⟨r', rfl, hr', hb⟩
    exact ⟨by rw [hr r' hr'.out], hb⟩
  by_cases hL : Lt 2 x y
  · exact ⟨-1, ⟨fun _ => hL, fun _ => by omega⟩, key _ fun r' ⟨⟨h1, _⟩, h2, h3⟩ => by have := h1.2 hL; omega⟩
  · by_cases hE : x = y
    · exact ⟨0, ⟨fun h => absurd h (by omega), fun h => absurd h hL⟩, key _ fun r' ⟨⟨_, h1⟩, h2, h3⟩ => h1.2 hE⟩
    · exact ⟨1, ⟨fun h => absurd h (by omega), fun h => absurd h hL⟩, key _ fun r' ⟨⟨h0, h1⟩, h2, h3⟩ => by
        have e1 : ¬ r' < 0 := fun h => hL (h0.1 h)
        have e2 : ¬ r' = 0 := fun h => hE (h1.1 h)
        omega⟩

set_option maxRecDepth 100000 in
set_option maxHeartbeats 1000000 in
theorem stable_any (g n c : Nat) (ts : List (Tm 2)) (fp : List Nat) (w : World) (hS : SAt 1 (SmT 2) w w g n c ts ts fp fp) (hn : n ≤ 19) :
    Calls Try.prog 66 #[.slice (some ⟨g, 0, none⟩) n c, .int .i64 n, .func (.func 54) #[] #[]] w fun e w' => e = .returned (.tuple #[]) ∧ ∃ us fq, SAt 1 (SmT 2) w w' g n c ts us fp fq ∧ SortedTo (Lt 2) us n := by
  have hC := insertion_any 1 (SmT 2) cmp_sm (fun x h => sm2_ok h) g n c ts fp w hS (by omega)
  have hd1 : decide ((20 : Int) ≤ (n : Int)) = false := by simp; omega
  have hd2 : decide ((20 : Int) < (n : Int)) = false := by simp; omega
  clear hS
  go_enter Try.func66, Try.ntmps66
  go_wp2_with fail
  refine wp_loop_rounds 1 ?_
  rw [rounds_succ]
  go_wp2_with fail
  refine hC.mono ?_
  clear hC
  rintro e w1 ⟨rfl, us, fq, h1, h2⟩
  have HE : Hid (∃ us fq, SAt 1 (SmT 2) w w1 g n c ts us fp fq ∧ SortedTo (Lt 2) us n) := ⟨us, fq, h1, h2⟩
  clear h1 h2
  go_wp2_with fail
  refine wp_loop_rounds 1 ?_
  rw [rounds_succ]
  go_wp2_with fail
  go_end0
  exact ⟨rfl, HE.out⟩

set_option maxRecDepth 100000 in
set_option maxHeartbeats 1000000 in
theorem sortStable_any (g n c : Nat) (ts : List (Tm 2)) (fp : List Nat) (w : World) (hS : SAt 1 (SmT 2) w w g n c ts ts fp fp) (hn : n ≤ 19) :
    Calls Try.prog 53 #[.slice (some ⟨g, 0, none⟩) n c, .func (.func 54) #[] #[]] w fun e w' => e = .returned (.tuple #[]) ∧ ∃ us fq, SAt 1 (SmT 2) w w' g n c ts us fp fq ∧ SortedTo (Lt 2) us n := by
  have hC := stable_any g n c ts fp w hS hn
  clear hS
  go_enter Try.func53, Try.ntmps53
  go_wp2_with fail
  refine hC.mono ?_
  clear hC
  rintro e w1 ⟨rfl, us, fq, h1, h2⟩
  have HE : Hid (∃ us fq, SAt 1 (SmT 2) w w1 g n c ts us fp fq ∧ SortedTo (Lt 2) us n) := ⟨us, fq, h1, h2⟩
  clear h1 h2
  go_wp2_with fail
  go_end0
  exact ⟨rfl, HE.out⟩

/-- What comes back of SortTerms. -/
def SortRes (ts : List (Tm 2)) (w : World) (e : Ending) (w' : World) : Prop := ∃ a l c us fq, e = .returned (.slice a l c) ∧ OwnL 2 w' (.slice a l c) us fq ∧ us.Perm ts ∧ SortedTo (Lt 2) us us.length ∧ Fresh w.heap.size w' fq ∧ Below w.heap.size w w'

set_option maxRecDepth 100000 in
set_option maxHeartbeats 1000000 in
theorem sortTerms_some (v : Value) (ts : List (Tm 2)) (w : World) (hr : RdQ 2 w v ts) (hne : ts ≠ []) (hn : ts.length ≤ 19) (hq : ∀ x ∈ ts, SmT 2 x) (hc : cntL 2 ts ≤ 33554432) :
    Calls Try.prog 29 #[v] w fun e w' => SortRes ts w e w' := by
  have hC := ownTerms_some 1 v ts w hr hne hc
  obtain ⟨b, o, c, rfl, hp, hel⟩ := hr.open hne
  obtain ⟨n, hnn⟩ : ∃ n, ts.length = n := ⟨_, rfl⟩
  have HN : Hid (ts.length = n) := hnn
  have HNE : Hid (ts ≠ []) := hne
  have HQ : Hid (∀ x ∈ ts, SmT 2 x) := hq
  rw [hnn] at hC hn ⊢
  clear hr hel hp hq hc hne hnn
  go_enter Try.func29, Try.ntmps29
  go_wp2_with fail
  refine hC.mono ?_
  clear hC
  rintro e w1 ⟨g, c1, fp, rfl, hown, hfr, hb⟩
  have hgm : g ∈ fp := by
    rcases hown with ⟨h, _⟩ | ⟨g', c', cur, fps, h1, h2, h3, rfl, h4⟩
    · exact absurd h HNE.out
    · simp only [Value.slice.injEq, Option.some.injEq, Addr.mk.injEq, and_true] at h1
      obtain ⟨rfl, _⟩ := h1
      exact List.mem_cons_self ..
  have hD := sortStable_any g n c1 ts fp w1 ⟨hown, List.Perm.refl _, List.Perm.refl _, HN.out, HQ.out, hfr.1, Wrote.refl _ _⟩ hn
  have HB : Hid (Below w.heap.size w w1 ∧ w.heap.size ≤ g ∧ ∀ x ∈ fp, w.heap.size ≤ x) := ⟨hb, (hfr.2 g hgm).1, fun x hx => (hfr.2 x hx).1⟩
  clear hown hfr hb hgm
  go_wp2_with fail
  refine hD.mono ?_
  clear hD
  rintro e w2 ⟨rfl, us, fq, hS, hs⟩
  have HE : Hid (SortRes ts w (.returned (.slice (some ⟨g, 0, none⟩) n c1)) w2) := by
    refine ⟨_, _, _, us, fq, rfl, hS.own, hS.perm, by rw [hS.len]; exact hs, ⟨hS.nd, fun x hx => ⟨HB.out.2.2 x (hS.fperm.mem_iff.1 hx), hS.own.lt x hx⟩⟩, ?_⟩
    have hw := hS.wrote
    exact HB.out.1.trans ⟨hw.os, hw.tape, hw.output, hw.size, fun k hk => hw.block k (Nat.lt_of_lt_of_le hk HB.out.1.size) (by simp; have := HB.out.2.1; omega)⟩
  clear hS hs HB
  go_wp2_with fail
  go_ret
  exact HE.out

end Go.Proofs.Ytjdhkhpdhblhbaa

/- No terms: their copy, and what is sorted of them. -/
namespace Go.Proofs.Ytjdhkhpdhblhbaa
open Go.RowKit
set_option linter.unusedVariables false

set_option maxRecDepth 100000 in
set_option maxHeartbeats 1000000 in
theorem ownTrees_none (ad : Addr) (c : Nat) (w : World) : Calls Try.prog 65 #[.slice (some ad) 0 c] w fun e w' => e = .returned (.slice none 0 0) ∧ Below w.heap.size w w' := by
  have hM := measureOf_any 0 (.slice (some ad) 0 c) [] w ⟨_, _, rfl⟩ (by rw [cntL_nil]; omega)
  rw [cntL_nil, depL_nil] at hM
  have hf0 := fld0 0 0
  obtain ⟨i0, hi, hz0, hz1, hz2⟩ := info_parts Try.infoTerm
  go_enter Try.func65, Try.ntmps65
  go_wp2_with fail
  refine hM.mono ?_
  clear hM
  rintro e w1 ⟨rfl, hb1⟩
  have HB1 : Hid (Below w.heap.size w (w1.alloc (.cells #[.int .i64 33554432] 125))) := hb1.trans ((Below.refl _ _).alloc hb1.size _)
  clear hb1
  go_wp2_with (at_builtin; refine wpList_append_own _ rfl _ _ 27 rfl (w1.heap.size + 1) 29 i0 _ 4 56 Try.underlying27 hi hz0 hz1 hz2 rfl (by decide) _ 0 [] rfl (World.ownsRow_nil _ _ _ _) ad 0 c [] rfl rfl (fun j u hu => by simp at hu) (fun u hu => by simp at hu) (by unfold maxLen; omega) (by omega) (by simp) ?_)
  intro v' w2 hown hgrow hnil
  subst hnil
  have HB2 : Hid (Below w.heap.size w w2) := HB1.out.grown hgrow HB1.out.size (fun k hk => by cases hk)
  clear hown hgrow HB1
  go_wp2_with fail
  refine wp_loop_rounds 2 ?_
  rw [rounds_succ]
  go_wp2_with fail
  refine wp_loop_rounds 1 ?_
  rw [rounds_succ]
  go_wp2_with fail
  rw [rounds_succ]
  go_wp2_with fail
  go_ret
  refine ⟨rfl, ?_⟩
  have hb2 := HB2.out
  exact hb2.trans ((Below.refl _ _).alloc hb2.size _)

set_option maxRecDepth 100000 in
set_option maxHeartbeats 1000000 in
theorem ownTrees_nil (w : World) : Calls Try.prog 65 #[.slice none 0 0] w fun e w' => e = .returned (.slice none 0 0) ∧ Below w.heap.size w w' := by
  have hM := measureOf_any 0 (.slice none 0 0) [] w ⟨_, _, rfl⟩ (by rw [cntL_nil]; omega)
  rw [cntL_nil, depL_nil] at hM
  have hf0 := fld0 0 0
  obtain ⟨i0, hi, hz0, hz1, hz2⟩ := info_parts Try.infoTerm
  go_enter Try.func65, Try.ntmps65
  go_wp2_with fail
  refine hM.mono ?_
  clear hM
  rintro e w1 ⟨rfl, hb1⟩
  have HB1 : Hid (Below w.heap.size w (w1.alloc (.cells #[.int .i64 33554432] 125))) := hb1.trans ((Below.refl _ _).alloc hb1.size _)
  clear hb1
  go_wp2_with (at_builtin; refine wpList_append_own_none rfl _ _ 27 rfl (w1.heap.size + 1) 29 i0 4 Try.underlying27 hi _ 0 [] rfl (World.ownsRow_nil _ _ _ _) rfl ?_)
  go_wp2_with fail
  refine wp_loop_rounds 2 ?_
  rw [rounds_succ]
  go_wp2_with fail
  refine wp_loop_rounds 1 ?_
  rw [rounds_succ]
  go_wp2_with fail
  rw [rounds_succ]
  go_wp2_with fail
  go_ret
  refine ⟨rfl, ?_⟩
  have hb2 := HB1.out
  exact hb2.trans ((Below.refl _ _).alloc hb2.size _)

theorem ownTerms_none (ad : Addr) (c : Nat) (w : World) : Calls Try.prog 52 #[.slice (some ad) 0 c] w fun e w' => e = .returned (.slice none 0 0) ∧ Below w.heap.size w w' := by
  have hC := ownTrees_none ad c w
  go_enter Try.func52, Try.ntmps52
  go_wp2_with fail
  refine hC.mono ?_
  clear hC
  rintro e w' ⟨rfl, h⟩
  go_wp2_with fail
  go_ret
  exact ⟨rfl, h⟩

theorem ownTerms_nil (w : World) : Calls Try.prog 52 #[.slice none 0 0] w fun e w' => e = .returned (.slice none 0 0) ∧ Below w.heap.size w w' := by
  have hC := ownTrees_nil w
  go_enter Try.func52, Try.ntmps52
  go_wp2_with fail
  refine hC.mono ?_
  clear hC
  rintro e w' ⟨rfl, h⟩
  go_wp2_with fail
  go_ret
  exact ⟨rfl, h⟩

set_option maxRecDepth 100000 in
set_option maxHeartbeats 1000000 in
theorem insertion_none (w : World) : Calls Try.prog 78 #[.slice none 0 0, .int .i64 0, .int .i64 0, .func (.func 54) #[] #[]] w fun e w' => e = .returned (.tuple #[]) ∧ w = w' := by
  go_enter Try.func78, Try.ntmps78
  go_wp2_with fail
  refine wp_loop_rounds 1 ?_
  rw [rounds_succ]
  go_wp2_with fail
  go_end0
  exact ⟨rfl, rfl⟩

set_option maxRecDepth 100000 in
set_option maxHeartbeats 1000000 in
theorem stable_none (w : World) : Calls Try.prog 66 #[.slice none 0 0, .int .i64 0, .func (.func 54) #[] #[]] w fun e w' => e = .returned (.tuple #[]) ∧ w = w' := by
  have hC := insertion_none w
  go_enter Try.func66, Try.ntmps66
  go_wp2_with fail
  refine wp_loop_rounds 1 ?_
  rw [rounds_succ]
  go_wp2_with fail
  refine hC.mono ?_
  clear hC
  rintro e w1 ⟨rfl, rfl⟩
  go_wp2_with fail
  refine wp_loop_rounds 1 ?_
  rw [rounds_succ]
  go_wp2_with fail
  go_end0
  exact ⟨rfl, rfl⟩

set_option maxRecDepth 100000 in
set_option maxHeartbeats 1000000 in
theorem sortStable_none (w : World) : Calls Try.prog 53 #[.slice none 0 0, .func (.func 54) #[] #[]] w fun e w' => e = .returned (.tuple #[]) ∧ w = w' := by
  have hC := stable_none w
  go_enter Try.func53, Try.ntmps53
  go_wp2_with fail
  refine hC.mono ?_
  clear hC
  rintro e w1 ⟨rfl, rfl⟩
  go_wp2_with fail
  go_end0
  exact ⟨rfl, rfl⟩

set_option maxRecDepth 100000 in
set_option maxHeartbeats 1000000 in
theorem sortTerms_none (ad : Addr) (c : Nat) (w : World) : Calls Try.prog 29 #[.slice (some ad) 0 c] w fun e w' => e = .returned (.slice none 0 0) ∧ Below w.heap.size w w' := by
  have hC := ownTerms_none ad c w
  go_enter Try.func29, Try.ntmps29
  go_wp2_with fail
  refine hC.mono ?_
  clear hC
  rintro e w1 ⟨rfl, hb⟩
  go_wp2_with fail
  refine (sortStable_none w1).mono ?_
  rintro e w2 ⟨rfl, rfl⟩
  go_wp2_with fail
  go_ret
  exact ⟨rfl, hb⟩

set_option maxRecDepth 100000 in
set_option maxHeartbeats 1000000 in
theorem sortTerms_nil (w : World) : Calls Try.prog 29 #[.slice none 0 0] w fun e w' => e = .returned (.slice none 0 0) ∧ Below w.heap.size w w' := by
  have hC := ownTerms_nil w
  go_enter Try.func29, Try.ntmps29
  go_wp2_with fail
  refine hC.mono ?_
  clear hC
  rintro e w1 ⟨rfl, hb⟩
  go_wp2_with fail
  refine (sortStable_none w1).mono ?_
  rintro e w2 ⟨rfl, rfl⟩
  go_wp2_with fail
  go_ret
  exact ⟨rfl, hb⟩

end Go.Proofs.Ytjdhkhpdhblhbaa
