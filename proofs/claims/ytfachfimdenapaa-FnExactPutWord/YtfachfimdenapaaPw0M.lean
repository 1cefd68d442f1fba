/- A row of terms and one more, put together: slices.Concat of two. -/
import Derived.Test.YtfachfimdenapaaOw2M
import Derived.Laws.OwnMore
import Derived.Laws.AppendOwnNone
import Derived.Lib.AppendZeros
import Derived.Deep.DeepCutAuto
namespace Go.Proofs.Ytfachfimdenapaa
open Go.RowKit
set_option linter.unusedVariables false

theorem run_append_zero {P : Program} (w : World) (base : Nat) (t ty e : TypeId) (i : TypeInfo) (size : Nat) (ht : P.underlying t = some (.slice e)) (hi : P.info? e = some i)
    (v : Value) (n : Nat) (xs : List Value) (hown : w.ownsRow base e size v n xs) (c : Nat) :
    (Builtin.append_ #[t, t] ty #[v, .slice none 0 c]).run P w = .ok v w := by
  rcases hown.2 with ⟨rfl, rfl⟩ | ⟨g, cap, cur, rfl, _, _, hnc, _⟩
  · simp [Builtin.append_, run_underlying ht, sizeOf, typeInfo, hi, Builtin.lenOf, Builtin.firstCells]
  · simp [Builtin.append_, run_underlying ht, sizeOf, typeInfo, hi, Builtin.lenOf, Builtin.firstCells, hnc, storeCells]

set_option maxRecDepth 100000 in
set_option maxHeartbeats 2000000 in
theorem growTerms_any (n : Nat) (hn : 1 ≤ n ∧ n ≤ 1000) (w : World) :
    Calls Try.prog 58 #[.slice none 0 0, .int .i64 n] w fun e w' => ∃ g c, e = .returned (.slice (some ⟨g, 0, none⟩) 0 c) ∧ Hid (w'.ownsRow w.heap.size 31 4 (.slice (some ⟨g, 0, none⟩) 0 c) 0 []) ∧ Below w.heap.size w w' := by
  obtain ⟨i0, hi, hz0, hz1, hz2⟩ := info_parts Try.infoTerm
  have hrun := fun ty => Lib.run_append_nil_zeros (P := Try.prog) w 60 3 ty 31 i0 _ .i64 .i64 Try.underlying60 Try.underlying3 hi hz0 n (by omega) (by omega) (by omega) (by rw [hz2]; omega)
  obtain ⟨C, hC⟩ : ∃ C, grownCap w n 0 31 = C := ⟨_, rfl⟩
  have hCn : n ≤ C := by rw [← hC]; exact grownCap_ge w n 0 _
  have hCm : C ≤ maxLen := by rw [← hC]; exact grownCap_le_maxLen w n 0 _ (by unfold maxLen; omega)
  rw [hC] at hrun
  obtain ⟨cur, hcur⟩ : ∃ c : Array Value, c = Builtin.zeroCells (Value.agg #[.int .i64 0, .int .i64 0, .string ⟨#[]⟩, .slice none 0 0]).cells n ++ Builtin.zeroCells (Value.agg #[.int .i64 0, .int .i64 0, .string ⟨#[]⟩, .slice none 0 0]).cells (C - n) := ⟨_, rfl⟩
  have hsz : cur.size = C * 4 := by
    rw [hcur, Array.size_append, size_zeroCells, size_zeroCells]
    show n * 4 + (C - n) * 4 = C * 4
    omega
  rw [← hcur] at hrun
  have hrow : (w.drew.alloc (.cells cur 31)).ownsRow w.heap.size 31 4 (.slice (some ⟨w.heap.size, 0, none⟩) 0 C) 0 [] := ⟨rfl, .inr ⟨w.heap.size, C, cur, rfl, Nat.le_refl _, heap_alloc_new w.drew _, Nat.zero_le _, hCm, hsz, rfl⟩⟩
  have hbel : Below w.heap.size w (w.drew.alloc (.cells cur 31)) := (Below.refl _ _).drew.alloc (Nat.le_refl _) _
  have HR : Hid ((w.drew.alloc (.cells cur 31)).ownsRow w.heap.size 31 4 (.slice (some ⟨w.heap.size, 0, none⟩) 0 C) 0 []) := hrow
  have HB : Hid (Below w.heap.size w (w.drew.alloc (.cells cur 31))) := hbel
  clear hcur hsz hrow hbel hC
  have hn1 : ¬ ((n : Int) < 0) := by omega
  have hn2 : 0 < n := by omega
  have hw1 : wrap64 ((n : Int) - 0) = n := by unfold wrap64; omega
  go_enter Try.func58, Try.ntmps58
  go_wp2_with (at_builtin; refine Lib.wpList_append_run _ rfl (.tmp 20) (.tmp 21) 60 3 rfl (.slice none 0 0) (.int .i64 n) rfl rfl _ _ (hrun _) ?_)
  go_ret
  exact ⟨_, _, rfl, HR.out, HB.out⟩

theorem own_geP {w : World} {B e z n : Nat} {v : Value} {xs : List Value} (h : w.ownsRow B e z v n xs) : ∀ g, v.ownBlock = some g → B ≤ g := fun g hg => by
  rcases h.2 with ⟨e1, _⟩ | ⟨g', c', cur, e1, e2, e3, _⟩
  · rw [e1] at hg; cases hg
  · rw [e1] at hg
    obtain rfl : g' = g := by simpa [Value.ownBlock] using hg
    exact e2

/-- A piece behind what is one's own. -/
theorem piece_on (B n m c ty : Nat) (a : Option Addr) (xs news : List Value) (v : Value) (w w0 : World) (hB : Below B w0 w) (hBw : B ≤ w0.heap.size) (hown : w.ownsRow B 31 4 v n xs) (hl : news.length = m * 4) (h1 : ∀ u ∈ news, u.oneCell' = true) (hnews : ∀ x, a = some x → ∀ j u, news[j]? = some u → w.cell? (x.add j) = some u) (hnone : a = none → m = 0) (hn : n + m ≤ 1000) :
    ∃ v' w', (Builtin.append_ #[60, 60] ty #[v, .slice a m c]).run Try.prog w = .ok v' w' ∧ Hid (w'.ownsRow B 31 4 v' (n + m) (xs ++ news)) ∧ Hid (Below B w0 w') := by
  obtain ⟨i0, hi, hz0, hz1, hz2⟩ := info_parts Try.infoTerm
  cases a with
  | none =>
    obtain rfl := hnone rfl
    have hnil : news = [] := List.length_eq_zero_iff.1 (by omega)
    subst hnil
    exact ⟨v, w, run_append_zero w B _ ty _ i0 4 Try.underlying60 hi v n xs hown c, (by show w.ownsRow _ _ _ _ _ _; simpa using hown), hB⟩
  | some x =>
    obtain ⟨v', w', hr, h2, h3, h4, h5⟩ := run_append_own_at (P := Try.prog) w B _ ty _ i0 _ 4 56 Try.underlying60 hi hz0 hz1 hz2 rfl (by decide) v n xs hown x m c news hl (hnews x rfl) h1 (by unfold maxLen; omega) (by omega) (Nat.le_trans hBw (Nat.le_trans (Nat.le_refl _) hB.size))
    exact ⟨v', w', hr, h2, hB.grown h3 (Nat.le_trans hBw hB.size) (own_geP hown)⟩

/-- What is put together: all the cells, in a row of one's own. -/
def CatRes (n : Nat) (news : List Value) (w : World) (e : Ending) (w' : World) : Prop := ∃ g c, e = .returned (.slice (some ⟨g, 0, none⟩) n c) ∧ Hid (w'.ownsRow w.heap.size 31 4 (.slice (some ⟨g, 0, none⟩) n c) n news) ∧ Below w.heap.size w w'

set_option maxRecDepth 100000 in
set_option maxHeartbeats 4000000 in
theorem concatTwo_any (n c0 g0 g1 : Nat) (a : Option Addr) (news one : List Value) (w : World) (hn : n ≤ 100) (hg : w.heap[g0]? = some (.cells #[.slice a n c0, .slice (some ⟨g1, 0, none⟩) 1 1] 60 (0, 0))) (hl : news.length = n * 4) (h1 : ∀ u ∈ news ++ one, u.oneCell' = true)
    (hnews : ∀ x, a = some x → ∀ j u, news[j]? = some u → w.cell? (x.add j) = some u) (hnone : a = none → n = 0) (hol : one.length = 4) (hone : ∀ j u, one[j]? = some u → w.cell? ((⟨g1, 0, none⟩ : Addr).add j) = some u) :
    Calls Try.prog 52 #[.slice (some ⟨g0, 0, none⟩) 2 2] w fun e w' => CatRes (n + 1) (news ++ one) w e w' := by
  have x0 : w.cell? ⟨g0, 0, none⟩ = some (.slice a n c0) := by rw [cell_of_row w _ 0 _ _ _ hg]; rfl
  have x1 : w.cell? ⟨g0, 1, none⟩ = some (.slice (some ⟨g1, 0, none⟩) 1 1) := by rw [cell_of_row w _ 1 _ _ _ hg]; rfl
  have hw1 : wrap64 (0 + (n : Int)) = n := by unfold wrap64; omega
  have hw2 : wrap64 ((n : Int) + 1) = ((n + 1 : Nat) : Int) := by unfold wrap64; omega
  have hn1 : ¬ ((n : Int) < 0) := by omega
  have hn2 : ¬ (((n + 1 : Nat) : Int) < 0) := by omega
  have HH : Hid (w.heap[g0]? = some (.cells #[.slice a n c0, .slice (some ⟨g1, 0, none⟩) 1 1] 60 (0, 0)) ∧ (∀ x, a = some x → ∀ j u, news[j]? = some u → w.cell? (x.add j) = some u) ∧ (∀ j u, one[j]? = some u → w.cell? ((⟨g1, 0, none⟩ : Addr).add j) = some u)) := ⟨hg, hnews, hone⟩
  clear hg hnews hone
  have hG := growTerms_any (n + 1) (by omega) w
  go_enter Try.func52, Try.ntmps52
  go_wp2_with fail
  refine wp_loop_rounds 3 ?_
  rw [rounds_succ]
  go_wp2_with fail
  rw [rounds_succ]
  go_wp2_with fail
  rw [rounds_succ]
  go_wp2_with fail
  refine hG.mono ?_
  clear hG
  rintro e w1 ⟨g, c, rfl, HO, hb1⟩
  have x0' := cell_later hb1 x0
  have x1' := cell_later hb1 x1
  obtain ⟨va, wa, hra, HA, HBa⟩ := piece_on w.heap.size 0 n c0 60 a [] news _ w1 w hb1 (Nat.le_refl _) HO.out hl (fun u hu => h1 u (List.mem_append_left _ hu)) (fun x hx j u hu => cell_later hb1 (HH.out.2.1 x hx j u hu)) hnone (by omega)
  obtain ⟨vb, wb, hrb, HB, HBb⟩ := piece_on w.heap.size n 1 1 60 (some ⟨g1, 0, none⟩) news one va wa w HBa.out (Nat.le_refl _) (by have := HA.out; simpa using this) hol (fun u hu => h1 u (List.mem_append_right _ hu)) (fun x hx j u hu => by cases hx; exact cell_later HBa.out (HH.out.2.2 j u hu)) (fun h => by cases h) (by omega)
  have x0a := cell_later HBa.out x0
  have x1a := cell_later HBa.out x1
  clear x0 x1 hb1
  go_wp2_with fail
  refine wp_loop_rounds 3 ?_
  rw [rounds_succ]
  go_wp2_with (at_builtin; refine Lib.wpList_append_run _ rfl (.tmp 31) (.tmp 32) 60 60 rfl (.slice (some ⟨g, 0, none⟩) 0 c) (.slice a n c0) rfl rfl va wa hra ?_)
  go_wp2_with fail
  rw [rounds_succ]
  go_wp2_with (at_builtin; refine Lib.wpList_append_run _ rfl (.tmp 31) (.tmp 32) 60 60 rfl va (.slice (some ⟨g1, 0, none⟩) 1 1) rfl rfl vb wb hrb ?_)
  go_wp2_with fail
  rw [rounds_succ]
  go_wp2_with fail
  go_ret
  obtain ⟨l2, hl2⟩ := HB.out
  rcases hl2 with ⟨_, e⟩ | ⟨gb, cb, cur, e1, e2, e3, e4⟩
  · omega
  · subst e1
    exact ⟨gb, cb, rfl, ⟨l2, .inr ⟨gb, cb, cur, rfl, e2, e3, e4⟩⟩, HBb.out⟩

end Go.Proofs.Ytfachfimdenapaa
