/- The draw of three terms: the walk. -/
import Derived.Test.YthjmbbpakidkdaaDrLs
namespace Go.Proofs.Ythjmbbpakidkdaa
open Go.RowKit
set_option linter.unusedVariables false

/-- Of all that was there only the blocks of a stretch are turned. -/
structure TurR (p q : Nat) (w w' : World) : Prop where
  os : w'.os = w.os
  tape : w'.tape = w.tape
  output : w'.output = w.output
  size : w.heap.size ≤ w'.heap.size
  block : ∀ g, g < w.heap.size → g < p ∨ q ≤ g → w'.heap[g]? = w.heap[g]?

theorem TurR.refl (p q : Nat) (w : World) : TurR p q w w := ⟨rfl, rfl, rfl, Nat.le_refl _, fun _ _ _ => rfl⟩
theorem TurR.trans {p q : Nat} {a b c : World} (h : TurR p q a b) (k : TurR p q b c) : TurR p q a c :=
  ⟨k.os.trans h.os, k.tape.trans h.tape, k.output.trans h.output, Nat.le_trans h.size k.size, fun g h1 h2 => (k.block g (Nat.lt_of_lt_of_le h1 h.size) h2).trans (h.block g h1 h2)⟩
theorem TurR.drew' {p q : Nat} {a w : World} (h : TurR p q a w) : TurR p q a w.drew := h.trans ⟨rfl, rfl, rfl, Nat.le_refl _, fun _ _ _ => rfl⟩
theorem TurR.set' {p q : Nat} {a w : World} {g o : Nat} {v : Value} (hg : p ≤ g ∧ g < q) (h : TurR p q a w) : TurR p q a (w.setCell ⟨g, o, none⟩ v) := by
  have t := Turned.of_set w g o v
  exact h.trans ⟨t.os, t.tape, t.output, t.size, fun x h1 h2 => t.block x h1 (by omega)⟩

set_option maxRecDepth 100000 in
set_option maxHeartbeats 2000000 in
theorem drawTerms_any (a : Option Addr) (len cap : Nat) (zs : List Int) (w : World) (hr : IsRow .u8 w a len cap zs) (hm : len ≤ 1048576) :
    Calls Try.prog 29 #[.slice a len cap] w fun e w' => ∃ k n s av lv cv k2 n2 s2 av2 lv2 cv2 k3 n3 s3 av3 lv3 cv3, e = .returned (.tuple #[.agg #[.int .i64 k, .int .i64 n, .string s, .slice av lv cv], .agg #[.int .i64 k2, .int .i64 n2, .string s2, .slice av2 lv2 cv2], .agg #[.int .i64 k3, .int .i64 n3, .string s3, .slice av3 lv3 cv3]]) ∧
      Hid (Rd3 w.heap.size w'.heap.size w' k n s (.slice av lv cv) ∧ Rd3 w.heap.size w'.heap.size w' k2 n2 s2 (.slice av2 lv2 cv2) ∧ Rd3 w.heap.size w'.heap.size w' k3 n3 s3 (.slice av3 lv3 cv3) ∧ Below w.heap.size w w') := by
  obtain ⟨W0, hW0⟩ : ∃ W, W = (w.alloc (.cells #[.int .i64 0, .int .i64 0, .string ⟨#[]⟩, .slice none 0 0] 26)).alloc (.cells #[.int .i64 0, .int .i64 0, .string ⟨#[]⟩, .slice none 0 0] 26) := ⟨_, rfl⟩
  have hz0 : W0.heap.size = w.heap.size + 1 + 1 := by rw [hW0]; simp
  have hb0 : Below w.heap.size w W0 := by rw [hW0]; exact ((Below.refl _ _).alloc (Nat.le_refl _) _).alloc (by simp) _
  obtain ⟨n0, m0⟩ := heap_two w (.cells #[.int .i64 0, .int .i64 0, .string ⟨#[]⟩, .slice none 0 0] 26) (.cells #[.int .i64 0, .int .i64 0, .string ⟨#[]⟩, .slice none 0 0] 26)
  rw [← hW0] at n0 m0
  obtain ⟨W1, hW1⟩ : ∃ W, W = W0.alloc (.cells #[.int .i64 0, .int .i64 0, .string ⟨#[]⟩, .slice none 0 0] 26) := ⟨_, rfl⟩
  have hz1 : W1.heap.size = w.heap.size + 1 + 1 + 1 := by rw [hW1]; simp [hz0]
  have hb01 : Below W0.heap.size W0 W1 := by rw [hW1]; exact (Below.refl _ _).alloc (Nat.le_refl _) _
  have hb1 : Below w.heap.size w W1 := hb0.trans (hb01.mono hb0.size)
  have n1 := (hb01.block _ (by omega)).trans n0
  have m1 := (hb01.block _ (by omega)).trans m0
  have l1 : W1.heap[w.heap.size + 1 + 1]? = some (.cells #[.int .i64 0, .int .i64 0, .string ⟨#[]⟩, .slice none 0 0] 26 (0, 0)) := by rw [hW1, ← hz0]; exact heap_alloc_new W0 _
  have hr1 := hr.later hb1
  have hne : ∀ x, a = some x → 0 < cap → x.block ≠ w.heap.size + 1 + 1 + 1 := by rw [← hz1]; exact isRow_old hr1
  have hN := l1New_any a len cap zs W1 hr1 (by omega)
  rw [hz1] at hN
  rw [hW1, hW0] at hN
  have HNE : Hid (∀ x, a = some x → 0 < cap → x.block ≠ w.heap.size + 1 + 1 + 1) := hne
  have HW1 : Hid (W1 = _) := hW1.trans (by rw [hW0])
  clear hW1 hne hW0 hb0 hb01 n0 m0 hz0
  go_enter Try.func29, Try.ntmps29
  go_wp2_with fail
  refine hN.mono ?_
  clear hN
  rintro e w2 ⟨rfl, hc2, hb2⟩
  rw [← HW1.out] at hb2
  have hb2' : Below W1.heap.size W1 w2 := by rw [hz1]; exact hb2
  have n2 := (hb2.block _ (by omega)).trans n1
  have m2 := (hb2.block _ (by omega)).trans m1
  have l2 := (hb2.block _ (by omega)).trans l1
  have hbw2 : Below w.heap.size w w2 := hb1.trans (hb2'.mono hb1.size)
  have hr2 := hr1.later hb2'
  have hz2 := hc2.lt
  have hD := drawLess_any a len cap zs w2 hr2 hm
  clear hr1 hb2 hb2' hb1 n1 m1 l1 HW1
  go_wp2_with fail
  refine hD.mono ?_
  clear hD
  rintro e w3 ⟨k, n, s, av, lv, cv, k2, x2, s2, av2, lv2, cv2, rfl, HP⟩
  obtain ⟨hA3, hB3, hb3⟩ := HP.out
  have hz3 := hb3.size
  obtain ⟨W4, hW4⟩ : ∃ W, W = (w3.alloc (.cells #[.int .i64 k, .int .i64 n, .string s, .slice av lv cv] 26)).alloc (.cells #[.int .i64 k2, .int .i64 x2, .string s2, .slice av2 lv2 cv2] 26) := ⟨_, rfl⟩
  have hb4 : Below w3.heap.size w3 W4 := by rw [hW4]; exact ((Below.refl _ _).alloc (Nat.le_refl _) _).alloc (by simp) _
  obtain ⟨A4, B4⟩ := heap_two w3 (.cells #[.int .i64 k, .int .i64 n, .string s, .slice av lv cv] 26) (.cells #[.int .i64 k2, .int .i64 x2, .string s2, .slice av2 lv2 cv2] 26)
  rw [← hW4] at A4 B4
  have hz4 : W4.heap.size = w3.heap.size + 1 + 1 := by rw [hW4]; simp
  have hb24 : Below w2.heap.size w2 W4 := hb3.trans (hb4.mono hb3.size)
  have n4 := (hb24.block _ (by omega)).trans n2
  have m4 := (hb24.block _ (by omega)).trans m2
  have l4 := (hb24.block _ (by omega)).trans l2
  have hc4 : Cur W4 (w.heap.size + 1 + 1 + 1) a len cap := hc2.same (hb24.block _ hc2.lt)
  have hr4 := hr2.later hb24
  have hbw4 : Below w.heap.size w W4 := hbw2.trans (hb24.mono hbw2.size)
  have hA4 : Rd3 (w.heap.size + 1 + 1 + 1 + 1) w3.heap.size W4 k n s (.slice av lv cv) := (hA3.frame fun g h1 h2 => hb4.block g h2).wide (by omega) (Nat.le_refl _)
  have hB4 : Rd3 (w.heap.size + 1 + 1 + 1 + 1) w3.heap.size W4 k2 x2 s2 (.slice av2 lv2 cv2) := (hB3.frame fun g h1 h2 => hb4.block g h2).wide (by omega) (Nat.le_refl _)
  have HW4 : Hid (W4 = _) := hW4
  clear hW4 hA3 hB3 hb3 hb4 hb24 n2 m2 l2 hc2 hr2 hbw2 HP
  go_wp2_with fail
  rw [← HW4.out]
  clear HW4
  have hgd : W4.grownBy W4.drew (some (w.heap.size + 1 + 1 + 1)) := ⟨rfl, rfl, rfl, Nat.le_refl _, fun _ _ _ => rfl⟩
  have hD := l2Draw_any 2 (by omega) (w.heap.size + 1 + 1 + 1) len cap a zs W4.drew (hc4.same rfl) (hr4.grown hgd HNE.out) HNE.out (by omega)
  rw [show ((2 : Nat) : Int) = 2 from rfl] at hD
  obtain ⟨A, hA⟩ : ∃ A, w3.heap.size = A := ⟨_, rfl⟩
  rw [hA] at A4 B4 hz4 hz3 hA4 hB4 ⊢
  have HAFT : Hid (∀ (w5 : World) (k3 n3 : Int) (s3 : ByteArray) (a3 : Option Addr) (l3 c3 : Nat), DPost 3 (w.heap.size + 1 + 1 + 1) a len cap W4.drew w5 (.agg #[.int .i64 k3, .int .i64 n3, .string s3, .slice a3 l3 c3]) →
      w5.heap[A]? = some (.cells #[.int .i64 k, .int .i64 n, .string s, .slice av lv cv] 26 (0, 0)) ∧ w5.heap[A + 1]? = some (.cells #[.int .i64 k2, .int .i64 x2, .string s2, .slice av2 lv2 cv2] 26 (0, 0)) ∧
      w5.heap[w.heap.size]? = some (.cells #[.int .i64 0, .int .i64 0, .string ⟨#[]⟩, .slice none 0 0] 26 (0, 0)) ∧ w5.heap[w.heap.size + 1]? = some (.cells #[.int .i64 0, .int .i64 0, .string ⟨#[]⟩, .slice none 0 0] 26 (0, 0)) ∧ w5.heap[w.heap.size + 1 + 1]? = some (.cells #[.int .i64 0, .int .i64 0, .string ⟨#[]⟩, .slice none 0 0] 26 (0, 0)) ∧ A + 1 < w5.heap.size ∧
      Hid (∀ Z, TurR w.heap.size (w.heap.size + 1 + 1 + 1) w5 Z → Rd3 w.heap.size Z.heap.size Z k n s (.slice av lv cv) ∧ Rd3 w.heap.size Z.heap.size Z k2 x2 s2 (.slice av2 lv2 cv2) ∧ Rd3 w.heap.size Z.heap.size Z k3 n3 s3 (.slice a3 l3 c3) ∧ Below w.heap.size w Z)) := fun w5 k3 n3 s3 a3 l3 c3 hP => by
    obtain ⟨hC5, hc5, hg5⟩ := own_draw hP
    have hg : W4.grownBy w5 (some (w.heap.size + 1 + 1 + 1)) := grownBy_trans hgd hg5
    have hz5 := hg.size
    have hbl : ∀ g, g < W4.heap.size → g ≠ w.heap.size + 1 + 1 + 1 → w5.heap[g]? = W4.heap[g]? := fun g h1 h2 => hg.block g h1 (by simp; omega)
    refine ⟨(hbl _ (by omega) (by omega)).trans A4, (hbl _ (by omega) (by omega)).trans B4, (hbl _ (by omega) (by omega)).trans n4, (hbl _ (by omega) (by omega)).trans m4, (hbl _ (by omega) (by omega)).trans l4, by omega, fun Z hZ => ?_⟩
    have hzZ := hZ.size
    have hbw5 : Below w.heap.size w w5 := hbw4.trans (grown_below hg (by omega) hbw4.size)
    have hzd : W4.drew.heap.size = W4.heap.size := rfl
    refine ⟨((hA4.frame (w' := w5) fun g h1 h2 => hbl g (by omega) (by omega)).frame fun g h1 h2 => hZ.block g (by omega) (by omega)).wide (by omega) (by omega), ((hB4.frame (w' := w5) fun g h1 h2 => hbl g (by omega) (by omega)).frame fun g h1 h2 => hZ.block g (by omega) (by omega)).wide (by omega) (by omega), (hC5.rd3.frame fun g h1 h2 => hZ.block g h2 (by omega)).wide (by omega) (by omega), ?_⟩
    exact ⟨hZ.os.trans hbw5.os, hZ.tape.trans hbw5.tape, hZ.output.trans hbw5.output, Nat.le_trans hbw5.size hZ.size, fun g hg => (hZ.block g (Nat.lt_of_lt_of_le hg hbw5.size) (by omega)).trans (hbw5.block g hg)⟩
  obtain ⟨a0, a1, a2, a3, p0, p1, p2, p3⟩ := four_cells A4
  obtain ⟨b0, b1, b2, b3, q0, q1, q2, q3⟩ := four_cells B4
  have hAw : w.heap.size + 1 + 1 + 1 < A := by omega
  clear A4 B4 n4 m4 l4 hA4 hB4 hc4 hr4 hbw4 hgd hA
  go_region_with (go_at_call 76; refine hD.mono ?_; rintro e w5 ⟨k3, n3, s3, av3, lv3, cv3, rfl, HP3⟩; obtain ⟨A5, B5, N5, M5, L5, hz5, HF⟩ := HAFT.out w5 k3 n3 s3 av3 lv3 cv3 HP3.out; obtain ⟨c0, c1, c2, c3, f0, f1, f2, f3⟩ := four_cells A5; obtain ⟨d0, d1, d2, d3, g0, g1, g2, g3⟩ := four_cells B5; obtain ⟨r0, r1, r2, r3, v0, v1, v2, v3⟩ := four_cells N5; obtain ⟨t0, t1, t2, t3, u0, u1, u2, u3⟩ := four_cells M5; obtain ⟨h0, h1, h2, h3, y0, y1, y2, y3⟩ := four_cells L5; clear A5 B5 N5 M5 L5)
  all_goals
    go_wp2_with fail
    refine bodyPost_ret (v := .tuple #[.agg #[.int .i64 k, .int .i64 n, .string s, .slice av lv cv], .agg #[.int .i64 k2, .int .i64 x2, .string s2, .slice av2 lv2 cv2], .agg #[.int .i64 k3, .int .i64 n3, .string s3, .slice av3 lv3 cv3]]) (by first | (simp [results, Try.results29, go_sem, r0, r1, r2, r3, t0, t1, t2, t3, h0, h1, h2, h3]; done) | (simp [results, Try.results29, go_sem, r0, r1, r2, r3, t0, t1, t2, t3, h0, h1, h2, h3]; rfl)) rfl ⟨k, n, s, _, _, _, k2, x2, s2, _, _, _, k3, n3, s3, _, _, _, rfl, HF.out _ ?_⟩
    repeat (first | with_reducible exact TurR.refl _ _ _ | with_reducible refine TurR.drew' ?_ | (with_reducible refine TurR.set' ?_ ?_; omega))

end Go.Proofs.Ythjmbbpakidkdaa
