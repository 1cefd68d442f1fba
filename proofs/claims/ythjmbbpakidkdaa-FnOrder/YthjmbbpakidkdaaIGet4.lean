/- The program's reading of a term, on: all storeys. -/
import Derived.Test.YthjmbbpakidkdaaIGet3
namespace Go.Proofs.Ythjmbbpakidkdaa
open Go.RowKit
set_option linter.unusedVariables false

set_option maxHeartbeats 1000000 in
theorem readTerm_zero : RTC 0 := by
  intro p b off n cap zs at_ w hB hr
  have z1 : w.frozen? ⟨p, 2, none⟩ = false := frozen_of_row w _ _ _ _ hr.heap
  have c2 : w.cell? ⟨p, 2, none⟩ = some (.bool false) := by rw [cell_of_row w _ 2 _ _ _ hr.heap]; rfl
  have HP : Hid (∀ o1, Post 0 w ((w.setCell ⟨p, 2, none⟩ (.bool true)).alloc o1) p b off n cap zs at_ (.agg #[.int .i64 0, .int .i64 0, .string ByteArray.empty, .slice none 0 0])) := fun o1 =>
    post_bad (hr.spoil.later ((Below.refl _ _).alloc (Nat.le_refl _) _)) ((Turned.of_set _ _ _ _).trans (Turned.of_below ((Below.refl _ _).alloc (Nat.le_refl _) _))) rfl
  rw [show (9 : Int) - ((0 : Nat) : Int) = 9 from by omega]
  have hpz := hr.lt
  clear hr hB
  go_enter Try.func73, Try.ntmps73
  go_wp2_with fail
  refine bodyPost_ret (v := .agg #[.int .i64 0, .int .i64 0, .string ByteArray.empty, .slice none 0 0]) (by first | (simp [results, Try.results73, go_sem]; done) | (simp [results, Try.results73, go_sem]; rfl)) rfl ⟨0, 0, ByteArray.empty, none, 0, 0, rfl, ?_⟩
  exact HP.out _

theorem ownT_frame {m : Nat} {w w' : World} {v : Value} {t : Tm m} {fp : List Nat} (h : OwnT m w v t fp) (hh : ∀ g ∈ fp, w'.heap[g]? = w.heap[g]?) : OwnT m w' v t fp := by
  cases m with
  | zero => exact h
  | succ m =>
    obtain ⟨a, l, c, e, h⟩ := h
    exact ⟨a, l, c, e, h.frame hh⟩

theorem post_move {M : Nat} {w W w1 w2 Z : World} {p b off n cap : Nat} {zs : List Int} {at_ : Int} {v : Value} {bad0 : Bool} (hr : Rdr w p b off n cap zs at_ bad0) (hA : Below w.heap.size w W) (hWz : W.heap.size = w.heap.size + 1) (hP : Post M W w1 p b off n cap zs at_ v)
    (hB : Below w1.heap.size w1 w2) (hT : Turned w.heap.size w2 Z) : Post M w Z p b off n cap zs at_ v := by
  obtain ⟨at', bad, h1, h2, h3, h4⟩ := hP
  have hpz := hr.lt
  have hz1 : W.heap.size ≤ w1.heap.size := h2.size
  have hz2 := hB.size
  have hz3 := hT.size
  have hk : ∀ x, x < w1.heap.size → x ≠ w.heap.size → Z.heap[x]? = w1.heap[x]? := fun x hx hn => (hT.block x (by omega) hn).trans (hB.block x hx)
  refine ⟨at', bad, ⟨(hk p (by omega) (by omega)).trans h1.heap, fun i hi => ?_, h1.ne⟩, ⟨hT.os.trans (hB.os.trans (h2.os.trans hA.os)), hT.tape.trans (hB.tape.trans (h2.tape.trans hA.tape)), hT.output.trans (hB.output.trans (h2.output.trans hA.output)), by omega, fun g hg hn => ?_⟩, fun hb => ?_, h4⟩
  · have hb := hr.blt (by omega)
    rw [World.cell?_of_block (a := ⟨b, off + i, none⟩) (hk b (by omega) (by show b ≠ _; omega))]
    exact h1.row i hi
  · exact (hk g (by omega) (by omega)).trans ((h2.block g (by omega) hn).trans (hA.block g hg))
  · obtain ⟨t, fp, q1, q2, q3, q4, q5, q6⟩ := h3 hb
    refine ⟨t, fp, ownT_frame q1 fun g hg => hk g (q2.2 g hg).2 (by have := (q2.2 g hg).1; omega), ⟨q2.1, fun g hg => ⟨by have := (q2.2 g hg).1; omega, by have := (q2.2 g hg).2; omega⟩⟩, q3, q4, q5, q6⟩

set_option maxHeartbeats 1000000 in
theorem readTerm_of (m : Nat) (hm : m ≤ 7) (H : RFC m) : RTC (m + 1) := by
  intro p b off n cap zs at_ w hB hr
  obtain ⟨W, hW⟩ : ∃ W, W = w.alloc (.cells #[.int .i64 0, .int .i64 0, .string ⟨#[]⟩, .slice none 0 0] 26) := ⟨_, rfl⟩
  have hA : Below w.heap.size w W := by rw [hW]; exact (Below.refl _ _).alloc (Nat.le_refl _) _
  have hB1 : W.heap[w.heap.size]? = some (.cells #[.int .i64 0, .int .i64 0, .string ⟨#[]⟩, .slice none 0 0] 26 (0, 0)) := by rw [hW]; exact heap_alloc_new w _
  have hWz : W.heap.size = w.heap.size + 1 := by rw [hW]; simp
  have hC := H p b off n cap zs at_ W hB (hr.later hA)
  have hpz := hr.lt
  have HRD : Hid (Rdr w p b off n cap zs at_ false) := hr
  rw [show (9 : Int) - ((m + 1 : Nat) : Int) = 8 - m from by omega]
  obtain ⟨dp, hdp⟩ : ∃ dp : Int, 8 - (m : Int) = dp := ⟨_, rfl⟩
  rw [hdp] at hC ⊢
  have hdp0 : 1 ≤ dp ∧ dp ≤ 8 := by omega
  rw [hW] at hC
  have HW : Hid (W = _) := hW
  clear hr hB H hdp hW
  go_enter Try.func73, Try.ntmps73
  go_wp2_with fail
  refine hC.mono ?_
  clear hC
  rintro e w1 ⟨f, k, x, s, a, l, c, rfl, HT, HP⟩
  rw [← HW.out] at HP
  have hz1 : W.heap.size ≤ w1.heap.size ∧ w1.heap[w.heap.size]? = W.heap[w.heap.size]? := by
    obtain ⟨_, _, _, h2, _⟩ := HP.out
    exact ⟨h2.size, h2.block _ (by omega) (by omega)⟩
  go_wp2_with fail
  refine (HT.out w1).mono ?_
  rintro e w2 ⟨rfl, hB2⟩
  have hh1 : w2.heap[w.heap.size]? = some (.cells #[.int .i64 0, .int .i64 0, .string ⟨#[]⟩, .slice none 0 0] 26 (0, 0)) := (hB2.block _ (by omega)).trans (hz1.2.trans hB1)
  have b0 : w2.cell? ⟨w.heap.size, 0, none⟩ = some (.int .i64 0) := by rw [cell_of_row w2 _ 0 _ _ _ hh1]; rfl
  have b1 : w2.cell? ⟨w.heap.size, 1, none⟩ = some (.int .i64 0) := by rw [cell_of_row w2 _ 1 _ _ _ hh1]; rfl
  have b2 : w2.cell? ⟨w.heap.size, 2, none⟩ = some (.string ⟨#[]⟩) := by rw [cell_of_row w2 _ 2 _ _ _ hh1]; rfl
  have b3 : w2.cell? ⟨w.heap.size, 3, none⟩ = some (.slice none 0 0) := by rw [cell_of_row w2 _ 3 _ _ _ hh1]; rfl
  have y0 : w2.frozen? ⟨w.heap.size, 0, none⟩ = false := frozen_of_row w2 _ 0 _ _ hh1
  have y1 : w2.frozen? ⟨w.heap.size, 1, none⟩ = false := frozen_of_row w2 _ 1 _ _ hh1
  have y2 : w2.frozen? ⟨w.heap.size, 2, none⟩ = false := frozen_of_row w2 _ 2 _ _ hh1
  have y3 : w2.frozen? ⟨w.heap.size, 3, none⟩ = false := frozen_of_row w2 _ 3 _ _ hh1
  have HM : Hid (∀ Z, Turned w.heap.size w2 Z → Post (m + 1) w Z p b off n cap zs at_ (.agg #[.int .i64 k, .int .i64 x, .string s, .slice a l c])) := fun Z hZ => post_move HRD.out hA hWz HP.out hB2 hZ
  clear hh1 hB2 HP HT hz1 hB1 HW hA HRD
  go_wp2_with fail
  refine bodyPost_ret (v := .agg #[.int .i64 k, .int .i64 x, .string s, .slice a l c]) (by simp [results, Try.results73, go_sem, b0, b1, b2, b3]) rfl ⟨k, x, s, a, l, c, rfl, HM.out _ ?_⟩
  exact (((Turned.of_set w2 _ _ _).trans (Turned.of_set _ _ _ _)).trans (Turned.of_set _ _ _ _)).trans (Turned.of_set _ _ _ _)

end Go.Proofs.Ythjmbbpakidkdaa
