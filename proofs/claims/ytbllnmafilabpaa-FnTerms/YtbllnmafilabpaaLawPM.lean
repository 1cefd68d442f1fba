/- SameTerm at equal terms; the draw of a term to be put. -/
import Derived.Test.YtbllnmafilabpaaOdM
import Derived.Test.YtbllnmafilabpaaBd2M
import Derived.Test.YtbllnmafilabpaaConvM
import Derived.Test.YtbllnmafilabpaaDrGtM
namespace Go.Proofs.Ytbllnmafilabpaa
open Go.RowKit
set_option linter.unusedVariables false

theorem sameTerm_yes (k n : Int) (s : ByteArray) (a1 a2 : Option Addr) (len c1 c2 : Nat) (us : List (Tm 7)) (w : World) (h1 : RdL 7 w (.slice a1 len c1) us) (h2 : RdL 7 w (.slice a2 len c2) us) (hR : Right 7 k n s us 8 300) :
    Calls Try.prog 11 #[.agg #[.int .i64 k, .int .i64 n, .string s, .slice a1 len c1], .agg #[.int .i64 k, .int .i64 n, .string s, .slice a2 len c2]] w fun e w' => e = .returned (.bool true) ∧ Below w.heap.size w w' := by
  obtain ⟨W, hW⟩ : ∃ W, W = (w.alloc (.cells #[.int .i64 k, .int .i64 n, .string s, .slice a1 len c1] 26)).alloc (.cells #[.int .i64 k, .int .i64 n, .string s, .slice a2 len c2] 26) := ⟨_, rfl⟩
  have hA : Below w.heap.size w W := by rw [hW]; exact ((Below.refl _ _).alloc (Nat.le_refl _) _).alloc (by simp) _
  have hcn : 1 + cntL 7 us ≤ 300 := by have := hR.2.2.2; omega
  have hC1 := orderOf_same k n s a1 a2 len c1 c2 (1 + cntL 7 us) w ⟨7, us, h1, h2, .inl hR.1, hR.2.1, rfl⟩ hcn
  have hC := orderOf_same k n s a1 a2 len c1 c2 (1 + cntL 7 us) W ⟨7, us, h1.later hA, h2.later hA, .inl hR.1, hR.2.1, rfl⟩ hcn
  clear h1 h2 hR hcn
  rw [hW] at hC
  have HW : Hid (W = _) := hW
  clear hW
  go_enter Try.func11, Try.ntmps11
  go_wp2_with fail
  first
    | (refine hC1.mono ?_
       rintro e w1 ⟨rfl, hb⟩
       go_wp2_with fail
       go_ret
       exact ⟨rfl, hb⟩)
    | (refine hC.mono ?_
       rintro e w1 ⟨rfl, hb⟩
       rw [← HW.out] at hb
       go_wp2_with fail
       go_ret
       exact ⟨rfl, hA.trans (hb.mono hA.size)⟩)

theorem drawPutTerm_any (a : Option Addr) (len cap : Nat) (zs : List Int) (w : World) (hr : IsRow .u8 w a len cap zs) (hm : len ≤ 1048576) :
    Calls Try.prog 6 #[.slice a len cap] w fun e w' => ∃ k n s av lv cv, e = .returned (.agg #[.int .i64 k, .int .i64 n, .string s, .slice av lv cv]) ∧ Hid (AnyT w' w.heap.size k n s (.slice av lv cv) 200 ∧ Below w.heap.size w w') := by
  obtain ⟨W1, hW1⟩ : ∃ W, W = w.alloc (.cells #[.int .i64 0, .int .i64 0, .string ⟨#[]⟩, .slice none 0 0] 26) := ⟨_, rfl⟩
  have hz1 : W1.heap.size = w.heap.size + 1 := by rw [hW1]; simp
  have hb1 : Below w.heap.size w W1 := by rw [hW1]; exact (Below.refl _ _).alloc (Nat.le_refl _) _
  have n1 : W1.heap[w.heap.size]? = some (.cells #[.int .i64 0, .int .i64 0, .string ⟨#[]⟩, .slice none 0 0] 26 (0, 0)) := by rw [hW1]; exact heap_alloc_new w _
  have hr1 := hr.later hb1
  have hne : ∀ x, a = some x → 0 < cap → x.block ≠ w.heap.size + 1 := by rw [← hz1]; exact isRow_old hr1
  have hN := l1New_any a len cap zs W1 hr1 (by omega)
  rw [hz1] at hN
  rw [hW1] at hN
  have HNE : Hid (∀ x, a = some x → 0 < cap → x.block ≠ w.heap.size + 1) := hne
  have HW1 : Hid (W1 = _) := hW1
  clear hW1 hne
  go_enter Try.func6, Try.ntmps6
  go_wp2_with fail
  refine hN.mono ?_
  clear hN
  rintro e w3 ⟨rfl, hc3, hb2⟩
  rw [← HW1.out] at hb2
  have hb2' : Below W1.heap.size W1 w3 := by rw [hz1]; exact hb2
  have n3 := (hb2.block _ (by omega)).trans n1
  have hbw3 : Below w.heap.size w w3 := hb1.trans (hb2'.mono hb1.size)
  have hr3 := hr1.later hb2'
  have hz3 := lt_of_row' n3
  have hA := l2Any_any (w.heap.size + 1) len cap a zs w3 hc3 hr3 HNE.out (by omega)
  clear hr1 hb2 hb2' hb1 n1 HW1
  go_wp2_with fail
  refine hA.mono ?_
  clear hA
  rintro e w4 ⟨k, n, s, av, lv, cv, rfl, HP⟩
  obtain ⟨hA4, hc4, hg4⟩ := HP.out
  have n4 := (hg4.block _ hz3 (by simp)).trans n3
  have hbw4 : Below w.heap.size w w4 := hbw3.trans (grown_below hg4 (by omega) hbw3.size)
  have HF : Hid (∀ Z, Turned w.heap.size w4 Z → AnyT Z w.heap.size k n s (.slice av lv cv) 200 ∧ Below w.heap.size w Z) := fun Z hZ => ⟨(hA4.frame (fun g h1 h2 => hZ.block g h2 (by omega)) hZ.size).low (by omega), hbw4.trans (hZ.below (Nat.le_refl _) hbw4.size)⟩
  obtain ⟨r0, r1, r2, r3, v0, v1, v2, v3⟩ := four_cells n4
  have hz4 := lt_of_row' n4
  clear hA4 hc4 hg4 n4 hbw4 HP n3 hc3 hr3 hbw3
  go_wp2_with fail
  refine bodyPost_ret (v := .agg #[.int .i64 k, .int .i64 n, .string s, .slice av lv cv]) (by first | (simp [results, Try.results6, go_sem, r0, r1, r2, r3]; done) | (simp [results, Try.results6, go_sem, r0, r1, r2, r3]; rfl)) rfl ⟨k, n, s, _, _, _, rfl, HF.out _ ?_⟩
  repeat (first | exact Turned.refl _ _ | refine Turned.trans ?_ (Turned.of_set _ _ _ _))

end Go.Proofs.Ytbllnmafilabpaa
