/- The draw of two terms to be compared: the walk. -/
import Derived.Test.YtbllnmafilabpaaBd2M
namespace Go.Proofs.Ytbllnmafilabpaa
open Go.RowKit
set_option linter.unusedVariables false

/-- Of all that was there only two blocks are turned. -/
structure Tur2 (p q : Nat) (w w' : World) : Prop where
  os : w'.os = w.os
  tape : w'.tape = w.tape
  output : w'.output = w.output
  size : w.heap.size ≤ w'.heap.size
  block : ∀ g, g < w.heap.size → g ≠ p → g ≠ q → w'.heap[g]? = w.heap[g]?

theorem Tur2.refl (p q : Nat) (w : World) : Tur2 p q w w := ⟨rfl, rfl, rfl, Nat.le_refl _, fun _ _ _ _ => rfl⟩
theorem Tur2.drew (p q : Nat) (w : World) : Tur2 p q w w.drew := ⟨rfl, rfl, rfl, Nat.le_refl _, fun _ _ _ _ => rfl⟩
theorem Tur2.trans {p q : Nat} {a b c : World} (h : Tur2 p q a b) (k : Tur2 p q b c) : Tur2 p q a c :=
  ⟨k.os.trans h.os, k.tape.trans h.tape, k.output.trans h.output, Nat.le_trans h.size k.size, fun g h1 h2 h3 => (k.block g (Nat.lt_of_lt_of_le h1 h.size) h2 h3).trans (h.block g h1 h2 h3)⟩
theorem Tur2.set (p q : Nat) (w : World) (g o : Nat) (v : Value) (h : g = p ∨ g = q) : Tur2 p q w (w.setCell ⟨g, o, none⟩ v) := by
  have t := Turned.of_set w g o v
  exact ⟨t.os, t.tape, t.output, t.size, fun x h1 h2 h3 => t.block x h1 (by omega)⟩

theorem Tur2.set' {p q : Nat} {a w : World} {g o : Nat} {v : Value} (hg : g = p ∨ g = q) (h : Tur2 p q a w) : Tur2 p q a (w.setCell ⟨g, o, none⟩ v) := h.trans (Tur2.set p q w g o v hg)

theorem Tur2.drew' {p q : Nat} {a w : World} (h : Tur2 p q a w) : Tur2 p q a w.drew := h.trans (Tur2.drew p q w)

theorem ls_fin {w X Z : World} {k n : Int} {s : ByteArray} {v : Value} {k2 n2 : Int} {s2 : ByteArray} {v2 : Value} (ha : Rd3 (w.heap.size + 1 + 1 + 1) X.heap.size X k n s v) (hb : Rd3 (w.heap.size + 1 + 1 + 1) X.heap.size X k2 n2 s2 v2) (hbel : Below w.heap.size w X) (hZ : Tur2 w.heap.size (w.heap.size + 1) X Z) :
    Rd3 w.heap.size Z.heap.size Z k n s v ∧ Rd3 w.heap.size Z.heap.size Z k2 n2 s2 v2 ∧ Below w.heap.size w Z :=
  ⟨(ha.frame fun g h1 h2 => hZ.block g h2 (by omega) (by omega)).wide (by omega) hZ.size, (hb.frame fun g h1 h2 => hZ.block g h2 (by omega) (by omega)).wide (by omega) hZ.size, hZ.os.trans hbel.os, hZ.tape.trans hbel.tape, hZ.output.trans hbel.output, Nat.le_trans hbel.size hZ.size, fun g hg => (hZ.block g (Nat.lt_of_lt_of_le hg hbel.size) (by omega) (by omega)).trans (hbel.block g hg)⟩

theorem cp_own {w' : World} {lo : Nat} {k n : Int} {s : ByteArray} {av : Option Addr} {lv cv : Nat} {ts : List (Tm 2)} {fp : List Nat} (hM : Made 2 lo w' (.slice av lv cv) ts fp) (h : I64 k ∧ I64 n ∧ s.size ≤ maxLen ∧ SmT 3 (mk k n s ts)) : Own3 lo w'.heap.size w' k n s (.slice av lv cv) := by
  obtain ⟨a1, l1, c1, fp', e, h1, h2, h3⟩ := hM.own
  exact ⟨ts, fp', h1, h2, h3, h⟩

/-- How the draw stands at its end. -/
structure LsEnd (w X : World) (A B : Nat) (k n : Int) (s : ByteArray) (v : Value) (k2 n2 : Int) (s2 : ByteArray) (v2 : Value) : Prop where
  r0 : X.heap[w.heap.size]? = some (.cells #[.int .i64 0, .int .i64 0, .string ⟨#[]⟩, .slice none 0 0] 26 (0, 0))
  r1 : X.heap[w.heap.size + 1]? = some (.cells #[.int .i64 0, .int .i64 0, .string ⟨#[]⟩, .slice none 0 0] 26 (0, 0))
  bA : X.heap[A]? = some (.cells #[.int .i64 k, .int .i64 n, .string s, v] 26 (0, 0))
  bB : X.heap[B]? = some (.cells #[.int .i64 k2, .int .i64 n2, .string s2, v2] 26 (0, 0))
  ra : Rd3 (w.heap.size + 1 + 1 + 1) X.heap.size X k n s v
  rb : Rd3 (w.heap.size + 1 + 1 + 1) X.heap.size X k2 n2 s2 v2
  bel : Below w.heap.size w X

/-- The element is drawn and set. -/
theorem ls_aft {w X V w' : World} {A B p len cap : Nat} {a : Option Addr} {k n : Int} {s : ByteArray} {v : Value} {k2 n2 : Int} {s2 : ByteArray} {g lv cv lo hi i : Nat} {k3 n3 : Int} {s3 : ByteArray} {a3 : Option Addr} {l3 c3 : Nat}
    (hp : p = w.heap.size + 1 + 1) (hpA : p < A) (hAB : A < B) (hBlo : B < lo) (hlh : lo ≤ hi) (hhi : hi ≤ X.heap.size) (n0 : X.heap[w.heap.size]? = some (.cells #[.int .i64 0, .int .i64 0, .string ⟨#[]⟩, .slice none 0 0] 26 (0, 0))) (n1 : X.heap[w.heap.size + 1]? = some (.cells #[.int .i64 0, .int .i64 0, .string ⟨#[]⟩, .slice none 0 0] 26 (0, 0)))
    (hA : X.heap[A]? = some (.cells #[.int .i64 k, .int .i64 n, .string s, v] 26 (0, 0))) (hB : X.heap[B]? = some (.cells #[.int .i64 k2, .int .i64 n2, .string s2, .slice (some ⟨g, 0, none⟩) lv cv] 26 (0, 0))) (ra : Own3 (w.heap.size + 1 + 1 + 1) A X k n s v) (rb : Own3 lo hi X k2 n2 s2 (.slice (some ⟨g, 0, none⟩) lv cv)) (hbel : Below w.heap.size w X)
    (hi' : i < lv) (hV : X.grownBy V (some p)) (hD : DPost 2 p a len cap V w' (.agg #[.int .i64 k3, .int .i64 n3, .string s3, .slice a3 l3 c3])) :
    w'.cell? ⟨B, 3, none⟩ = some (.slice (some ⟨g, 0, none⟩) lv cv) ∧ (∃ x0 x1 x2 x3, w'.cell? ⟨g, i * 4, none⟩ = some x0 ∧ w'.cell? ⟨g, i * 4 + 1, none⟩ = some x1 ∧ w'.cell? ⟨g, i * 4 + 2, none⟩ = some x2 ∧ w'.cell? ⟨g, i * 4 + 3, none⟩ = some x3) ∧
      (w'.frozen? ⟨g, i * 4, none⟩ = false ∧ w'.frozen? ⟨g, i * 4 + 1, none⟩ = false ∧ w'.frozen? ⟨g, i * 4 + 2, none⟩ = false ∧ w'.frozen? ⟨g, i * 4 + 3, none⟩ = false) ∧ lv ≤ 3 ∧
      Hid (LsEnd w ((((w'.setCell ⟨g, i * 4, none⟩ (.int .i64 k3)).setCell ⟨g, i * 4 + 1, none⟩ (.int .i64 n3)).setCell ⟨g, i * 4 + 2, none⟩ (.string s3)).setCell ⟨g, i * 4 + 3, none⟩ (.slice a3 l3 c3)) A B k n s v k2 n2 s2 (.slice (some ⟨g, 0, none⟩) lv cv)) := by
  obtain ⟨hc, hg, t, fp, hown, hfr, hwf, hsm⟩ := hD
  obtain ⟨a', l', c', ev, hown⟩ := hown
  simp only [Value.agg.injEq] at ev
  have ev2 : ([.int .i64 k3, .int .i64 n3, .string s3, .slice a3 l3 c3] : List Value) = [.int .i64 t.K, .int .i64 t.N, .string t.S, .slice a' l' c'] := by simpa using congrArg Array.toList ev
  simp only [List.cons.injEq, Value.int.injEq, Value.string.injEq, Value.slice.injEq, true_and, and_true] at ev2
  obtain ⟨rfl, rfl, rfl, rfl, rfl, rfl⟩ := ev2
  have hgX : X.grownBy w' (some p) := grownBy_trans hV hg
  have z1 := hV.size
  have z2 := hg.size
  have hk : ∀ j, j < X.heap.size → j ≠ p → w'.heap[j]? = X.heap[j]? := fun j h1 h2 => hgX.block j h1 (by simp; omega)
  obtain ⟨hl3, g', cur, e, hcur, hsz, hlo, hhi', HS⟩ := (rb.frame (w' := w') fun j h1 h2 => hk j (by omega) (by omega)).set i hi'
  simp only [Option.some.injEq, Addr.mk.injEq, and_true] at e
  subst e
  have zB := lt_of_row' hB
  have zA := lt_of_row' hA
  have hBw := (hk B zB (by omega)).trans hB
  obtain ⟨S1, S2⟩ := stores4 w' g (i * 4) cur 26 hcur (.int .i64 t.K) (.int .i64 t.N) (.string t.S) (.slice a3 l3 c3)
  have S3 := stores4_size w' g (i * 4) (.int .i64 t.K) (.int .i64 t.N) (.string t.S) (.slice a3 l3 c3)
  have S4 := stores4_below w' g (i * 4) (.int .i64 t.K) (.int .i64 t.N) (.string t.S) (.slice a3 l3 c3)
  obtain ⟨Z, hZ⟩ : ∃ Z, Z = (((w'.setCell ⟨g, i * 4, none⟩ (.int .i64 t.K)).setCell ⟨g, i * 4 + 1, none⟩ (.int .i64 t.N)).setCell ⟨g, i * 4 + 2, none⟩ (.string t.S)).setCell ⟨g, i * 4 + 3, none⟩ (.slice a3 l3 c3) := ⟨_, rfl⟩
  rw [← hZ] at S1 S2 S3 S4
  have hkZ : ∀ j, j < X.heap.size → j ≠ p → j ≠ g → Z.heap[j]? = X.heap[j]? := fun j h1 h2 h3 => (S2 j h3).trans (hk j h1 h2)
  have hc4 : ∀ j, j < 4 → ∃ v, w'.cell? ⟨g, i * 4 + j, none⟩ = some v := fun j hj => by
    rw [cell_of_row w' _ _ _ _ _ hcur]
    exact ⟨_, Array.getElem?_eq_getElem (by omega)⟩
  obtain ⟨x0, y0⟩ := hc4 0 (by omega)
  obtain ⟨x1, y1⟩ := hc4 1 (by omega)
  obtain ⟨x2, y2⟩ := hc4 2 (by omega)
  obtain ⟨x3, y3⟩ := hc4 3 (by omega)
  refine ⟨(four_cells hBw).2.2.2.1, ⟨x0, x1, x2, x3, y0, y1, y2, y3⟩, ⟨frozen_of_row w' _ _ _ _ hcur, frozen_of_row w' _ _ _ _ hcur, frozen_of_row w' _ _ _ _ hcur, frozen_of_row w' _ _ _ _ hcur⟩, hl3, ?_⟩
  rw [← hZ]
  have hbw : Below w.heap.size w w' := hbel.trans (grown_below hgX (by omega) hbel.size)
  refine ⟨(hkZ _ (by omega) (by omega) (by omega)).trans n0, (hkZ _ (by omega) (by omega) (by omega)).trans n1, (hkZ _ zA (by omega) (by omega)).trans hA, (hkZ _ zB (by omega) (by omega)).trans hB, ?_, ?_, hbw.trans (S4.mono (by omega))⟩
  · exact ((ra.frame (w' := Z) fun j h1 h2 => hkZ j (by omega) (by omega) (by omega)).rd3).wide (Nat.le_refl _) (by omega)
  · have hV2 : ∀ j ∈ fp, Z.heap[j]? = w'.heap[j]? := fun j hj => S2 j (by have := hfr.2 j hj; omega)
    exact (HS Z t (.slice a3 l3 c3) fp S1 (fun j h1 h2 h3 => S2 j h3) (hown.frame hV2) hwf hsm (fun j hj => by have := hfr.2 j hj; omega) (by omega)).wide (by omega) (Nat.le_refl _)

set_option maxRecDepth 100000 in
set_option maxHeartbeats 2000000 in
theorem drawLess_any (a : Option Addr) (len cap : Nat) (zs : List Int) (w : World) (hr : IsRow .u8 w a len cap zs) (hm : len ≤ 1048576) :
    Calls Try.prog 23 #[.slice a len cap] w fun e w' => ∃ k n s av lv cv k2 n2 s2 av2 lv2 cv2, e = .returned (.tuple #[.agg #[.int .i64 k, .int .i64 n, .string s, .slice av lv cv], .agg #[.int .i64 k2, .int .i64 n2, .string s2, .slice av2 lv2 cv2]]) ∧
      Hid (Rd3 w.heap.size w'.heap.size w' k n s (.slice av lv cv) ∧ Rd3 w.heap.size w'.heap.size w' k2 n2 s2 (.slice av2 lv2 cv2) ∧ Below w.heap.size w w') := by
  obtain ⟨W1, hW1⟩ : ∃ W, W = (w.alloc (.cells #[.int .i64 0, .int .i64 0, .string ⟨#[]⟩, .slice none 0 0] 26)).alloc (.cells #[.int .i64 0, .int .i64 0, .string ⟨#[]⟩, .slice none 0 0] 26) := ⟨_, rfl⟩
  have hz1 : W1.heap.size = w.heap.size + 1 + 1 := by rw [hW1]; simp
  have hb1 : Below w.heap.size w W1 := by rw [hW1]; exact ((Below.refl _ _).alloc (Nat.le_refl _) _).alloc (by simp) _
  obtain ⟨n1, m1⟩ := heap_two w (.cells #[.int .i64 0, .int .i64 0, .string ⟨#[]⟩, .slice none 0 0] 26) (.cells #[.int .i64 0, .int .i64 0, .string ⟨#[]⟩, .slice none 0 0] 26)
  rw [← hW1] at n1 m1
  have hr1 := hr.later hb1
  have hne : ∀ x, a = some x → 0 < cap → x.block ≠ w.heap.size + 1 + 1 := by rw [← hz1]; exact isRow_old hr1
  have hN := l1New_any a len cap zs W1 hr1 (by omega)
  rw [hz1] at hN
  rw [hW1] at hN
  have HNE : Hid (∀ x, a = some x → 0 < cap → x.block ≠ w.heap.size + 1 + 1) := hne
  have HW1 : Hid (W1 = _) := hW1
  clear hW1 hne
  go_enter Try.func23, Try.ntmps23
  go_wp2_with fail
  refine hN.mono ?_
  clear hN
  rintro e w2 ⟨rfl, hc2, hb2⟩
  rw [← HW1.out] at hb2
  have hb2' : Below W1.heap.size W1 w2 := by rw [hz1]; exact hb2
  have n2 := (hb2.block _ (by omega)).trans n1
  have m2 := (hb2.block _ (by omega)).trans m1
  have hbw2 : Below w.heap.size w w2 := hb1.trans (hb2'.mono hb1.size)
  have hr2 := hr1.later hb2'
  have hz2 := hc2.lt
  have hD := l2Draw_any 2 (by omega) (w.heap.size + 1 + 1) len cap a zs w2 hc2 hr2 HNE.out (by omega)
  rw [show ((2 : Nat) : Int) = 2 from rfl] at hD
  clear hr1 hb2 hb2' hb1 n1 m1 HW1 hc2
  go_wp2_with fail
  refine hD.mono ?_
  clear hD
  rintro e w3 ⟨k, n, s, av, lv, cv, rfl, HP⟩
  obtain ⟨hA3, hc3, hg3⟩ := own_draw HP.out
  have n3 := (hg3.block _ (by omega) (by simp <;> omega)).trans n2
  have m3 := (hg3.block _ (by omega) (by simp <;> omega)).trans m2
  have hz3 := hg3.size
  have hbw3 : Below w.heap.size w w3 := hbw2.trans (grown_below hg3 (by omega) hbw2.size)
  have hr3 := hr2.grown hg3 HNE.out
  obtain ⟨W4, hW4⟩ : ∃ W, W = w3.alloc (.cells #[.int .i64 k, .int .i64 n, .string s, .slice av lv cv] 26) := ⟨_, rfl⟩
  have hb4 : Below w3.heap.size w3 W4 := by rw [hW4]; exact (Below.refl _ _).alloc (Nat.le_refl _) _
  have A4 : W4.heap[w3.heap.size]? = some (.cells #[.int .i64 k, .int .i64 n, .string s, .slice av lv cv] 26 (0, 0)) := by rw [hW4]; exact heap_alloc_new w3 _
  have hz4 : W4.heap.size = w3.heap.size + 1 := by rw [hW4]; simp
  have hA4 : Own3 (w.heap.size + 1 + 1 + 1) w3.heap.size W4 k n s (.slice av lv cv) := (hA3.frame fun g h1 h2 => hb4.block g h2).wide (by omega) (Nat.le_refl _)
  have n4 := (hb4.block _ (by omega)).trans n3
  have m4 := (hb4.block _ (by omega)).trans m3
  have hc4 : Cur W4 (w.heap.size + 1 + 1) a len cap := hc3.same (hb4.block _ hc3.lt)
  have hr4 := hr3.later hb4
  have hbw4 : Below w.heap.size w W4 := hbw3.trans (hb4.mono hbw3.size)
  have hD := l2Draw_any 2 (by omega) (w.heap.size + 1 + 1) len cap a zs W4 hc4 hr4 HNE.out (by omega)
  rw [show ((2 : Nat) : Int) = 2 from rfl, hW4] at hD
  have HW4 : Hid (W4 = _) := hW4
  clear hW4 hA3 hc3 hg3 n3 m3 hbw3 hr3 hb4 hc4 n2 m2 hbw2 hr2 HP
  go_wp2_with fail
  refine hD.mono ?_
  clear hD
  rintro e w5 ⟨k2, n2, s2, av2, lv2, cv2, rfl, HP⟩
  rw [← HW4.out] at HP
  obtain ⟨hB5, hc5, hg5⟩ := own_draw HP.out
  have hz5 := hg5.size
  obtain ⟨A, hA⟩ : ∃ A, w3.heap.size = A := ⟨_, rfl⟩
  rw [hA] at A4 hz4 hA4 hz3 ⊢
  have A5 := (hg5.block _ (by omega) (by simp; omega)).trans A4
  have n5 := (hg5.block _ (by omega) (by simp <;> omega)).trans n4
  have m5 := (hg5.block _ (by omega) (by simp <;> omega)).trans m4
  have hA5 : Own3 (w.heap.size + 1 + 1 + 1) A w5 k n s (.slice av lv cv) := hA4.frame fun g h1 h2 => hg5.block g (by omega) (by simp; omega)
  have hbw5 : Below w.heap.size w w5 := hbw4.trans (grown_below hg5 (by omega) hbw4.size)
  have hr5 := hr4.grown hg5 HNE.out
  obtain ⟨W6, hW6⟩ : ∃ W, W = w5.alloc (.cells #[.int .i64 k2, .int .i64 n2, .string s2, .slice av2 lv2 cv2] 26) := ⟨_, rfl⟩
  have hb6 : Below w5.heap.size w5 W6 := by rw [hW6]; exact (Below.refl _ _).alloc (Nat.le_refl _) _
  have B6 : W6.heap[w5.heap.size]? = some (.cells #[.int .i64 k2, .int .i64 n2, .string s2, .slice av2 lv2 cv2] 26 (0, 0)) := by rw [hW6]; exact heap_alloc_new w5 _
  have hz6 : W6.heap.size = w5.heap.size + 1 := by rw [hW6]; simp
  have hA6 := hA5.frame (w' := W6) fun g h1 h2 => hb6.block g (by omega)
  have hB6 : Own3 (w.heap.size + 1 + 1 + 1) w5.heap.size W6 k2 n2 s2 (.slice av2 lv2 cv2) := (hB5.frame fun g h1 h2 => hb6.block g h2).wide (by omega) (Nat.le_refl _)
  have A6 := (hb6.block _ (by omega)).trans A5
  have n6 := (hb6.block _ (by omega)).trans n5
  have m6 := (hb6.block _ (by omega)).trans m5
  have hc6 : Cur W6 (w.heap.size + 1 + 1) a len cap := hc5.same (hb6.block _ hc5.lt)
  have hr6 := hr5.later hb6
  have hbw6 : Below w.heap.size w W6 := hbw5.trans (hb6.mono hbw5.size)
  have hO := l1OnceT_any (w.heap.size + 1 + 1) len cap a zs 3 W6 hc6 hr6 HNE.out (by omega) (by omega) (by omega)
  rw [hW6] at hO
  have HW6 : Hid (W6 = _) := hW6
  clear hW6 hB5 hA5 hc5 hg5 n5 m5 A5 hbw5 hr5 hb6 hc6 n4 m4 A4 hbw4 hr4 HP HW4 hA4
  go_wp2_with fail
  refine hO.mono ?_
  clear hO
  rintro e w7 ⟨b, rfl, hc7, hg7⟩
  rw [← HW6.out] at hg7
  obtain ⟨B, hB⟩ : ∃ B, w5.heap.size = B := ⟨_, rfl⟩
  rw [hB] at B6 hz6 hB6 hz5 ⊢
  have hz7 := hg7.size
  have A7 := (hg7.block _ (by omega) (by simp; omega)).trans A6
  have B7 := (hg7.block _ (by omega) (by simp; omega)).trans B6
  have n7 := (hg7.block _ (by omega) (by simp <;> omega)).trans n6
  have m7 := (hg7.block _ (by omega) (by simp <;> omega)).trans m6
  have hA7 := hA6.frame (w' := w7) fun g h1 h2 => hg7.block g (by omega) (by simp; omega)
  have hB7 := hB6.frame (w' := w7) fun g h1 h2 => hg7.block g (by omega) (by simp; omega)
  have hbw7 : Below w.heap.size w w7 := hbw6.trans (grown_below hg7 (by omega) hbw6.size)
  have hr7 := hr6.grown hg7 HNE.out
  have hzA : A < w7.heap.size := by omega
  have hzB : B < w7.heap.size := by omega
  have hAB : A < B := by omega
  have hwA : w.heap.size + 1 + 1 < A := by omega
  clear hA6 hB6 hg7 n6 m6 A6 B6 hbw6 hr6 HW6 hA hB hz1 hz2 hz3 hz4 hz5 hz6
  obtain ⟨a0, a1, a2, a3, p0, p1, p2, p3⟩ := four_cells A7
  obtain ⟨b0, b1, b2, b3, q0, q1, q2, q3⟩ := four_cells B7
  obtain ⟨r0, r1, r2, r3, v0, v1, v2, v3⟩ := four_cells n7
  obtain ⟨t0, t1, t2, t3, u0, u1, u2, u3⟩ := four_cells m7
  cases b
  · have HF : Hid (∀ Z, Tur2 w.heap.size (w.heap.size + 1) w7 Z → Rd3 w.heap.size Z.heap.size Z k n s (.slice av lv cv) ∧ Rd3 w.heap.size Z.heap.size Z k2 n2 s2 (.slice av2 lv2 cv2) ∧ Below w.heap.size w Z) := fun Z hZ => ls_fin (hA7.rd3.wide (Nat.le_refl _) (by omega)) (hB7.rd3.wide (Nat.le_refl _) (by omega)) hbw7 hZ
    clear hA7 hB7 hbw7 hr7 hc7 A7 B7 n7 m7
    go_wp2_with fail
    go_region
    all_goals
      go_wp2_with fail
      refine bodyPost_ret (v := .tuple #[.agg #[.int .i64 k, .int .i64 n, .string s, .slice av lv cv], .agg #[.int .i64 k2, .int .i64 n2, .string s2, .slice av2 lv2 cv2]]) (by first | (simp [results, Try.results23, go_sem, r0, r1, r2, r3, t0, t1, t2, t3]; done) | (simp [results, Try.results23, go_sem, r0, r1, r2, r3, t0, t1, t2, t3]; rfl)) rfl ⟨k, n, s, _, _, _, k2, n2, s2, _, _, _, rfl, HF.out _ ?_⟩
      repeat (first | with_reducible exact Tur2.refl _ _ _ | with_reducible refine Tur2.drew' ?_ | (with_reducible refine Tur2.set' ?_ ?_; omega))
  · obtain ⟨ts, fp, hown, hfr, hwf, hk, hn, hs, hsm⟩ := hA7
    have hA7 : Own3 (w.heap.size + 1 + 1 + 1) A w7 k n s (.slice av lv cv) := ⟨ts, fp, hown, hfr, hwf, hk, hn, hs, hsm⟩
    have hC := l2Copy_any 2 k n s (.slice av lv cv) ts w7 hown.rd hwf (sm_few 2 ts hsm.2.2.2 hsm.2.2.1)
    have HT : Hid (I64 k ∧ I64 n ∧ s.size ≤ maxLen ∧ SmT 3 (mk k n s ts)) := ⟨hk, hn, hs, hsm⟩
    have H7 : Hid (Own3 (w.heap.size + 1 + 1 + 1) A w7 k n s (.slice av lv cv) ∧ Below w.heap.size w w7 ∧ Cur w7 (w.heap.size + 1 + 1) a len cap ∧ IsRow .u8 w7 a len cap zs) := ⟨hA7, hbw7, hc7, hr7⟩
    have HN7 : Hid (w7.heap[w.heap.size]? = some (.cells #[.int .i64 0, .int .i64 0, .string ⟨#[]⟩, .slice none 0 0] 26 (0, 0)) ∧ w7.heap[w.heap.size + 1]? = some (.cells #[.int .i64 0, .int .i64 0, .string ⟨#[]⟩, .slice none 0 0] 26 (0, 0)) ∧ w7.heap[A]? = some (.cells #[.int .i64 k, .int .i64 n, .string s, .slice av lv cv] 26 (0, 0)) ∧ w7.heap[B]? = some (.cells #[.int .i64 k2, .int .i64 n2, .string s2, .slice av2 lv2 cv2] 26 (0, 0))) := ⟨n7, m7, A7, B7⟩
    clear hA7 hB7 hbw7 hr7 hc7 A7 B7 n7 m7 hown hfr hwf hk hn hs hsm
    go_wp2_with fail
    refine hC.mono ?_
    clear hC
    rintro e w8 ⟨av8, lv8, cv8, fp8, rfl, HM, hb8⟩
    clear a0 a1 a2 a3 p0 p1 p2 p3 b0 b1 b2 b3 q0 q1 q2 q3 r0 r1 r2 r3 v0 v1 v2 v3 t0 t1 t2 t3 u0 u1 u2 u3
    obtain ⟨n7, m7, A7, B7⟩ := HN7.out
    have n8 := (hb8.block _ (by omega)).trans n7
    have m8 := (hb8.block _ (by omega)).trans m7
    have A8 := (hb8.block _ (by omega)).trans A7
    have B8 := (hb8.block _ (by omega)).trans B7
    have hz8 := hb8.size
    obtain ⟨W9, hW9⟩ : ∃ W, W = (((w8.setCell ⟨B, 0, none⟩ (.int .i64 k)).setCell ⟨B, 1, none⟩ (.int .i64 n)).setCell ⟨B, 2, none⟩ (.string s)).setCell ⟨B, 3, none⟩ (.slice av8 lv8 cv8) := ⟨_, rfl⟩
    have hT9 : Turned B w8 W9 := by rw [hW9]; exact (((Turned.of_set _ _ _ _).trans (Turned.of_set _ _ _ _)).trans (Turned.of_set _ _ _ _)).trans (Turned.of_set _ _ _ _)
    have B9 : W9.heap[B]? = some (.cells #[.int .i64 k, .int .i64 n, .string s, .slice av8 lv8 cv8] 26 (0, 0)) := by rw [hW9]; exact (stores4 w8 B 0 _ _ B8 _ _ _ _).1
    have hz9 := hT9.size
    have A9 := (hT9.block _ (by omega) (by omega)).trans A8
    have n9 := (hT9.block _ (by omega) (by omega)).trans n8
    have m9 := (hT9.block _ (by omega) (by omega)).trans m8
    have hB9 : Own3 w7.heap.size w8.heap.size W9 k n s (.slice av8 lv8 cv8) := ((cp_own HM.out HT.out).frame fun g h1 h2 => hT9.block g h2 (by omega)).wide (by omega) (Nat.le_refl _)
    have hA9 : Own3 (w.heap.size + 1 + 1 + 1) A W9 k n s (.slice av lv cv) := (H7.out.1.frame (w' := w8) fun g h1 h2 => hb8.block g (by omega)).frame fun g h1 h2 => hT9.block g (by omega) (by omega)
    have hbw8 : Below w.heap.size w w8 := H7.out.2.1.trans (hb8.mono H7.out.2.1.size)
    have hbw9 : Below w.heap.size w W9 := hbw8.trans (hT9.below (by omega) hbw8.size)
    have hc9 : Cur W9 (w.heap.size + 1 + 1) a len cap := (H7.out.2.2.1.same (hb8.block _ H7.out.2.2.1.lt)).same (hT9.block _ (Nat.lt_of_lt_of_le H7.out.2.2.1.lt hz8) (by omega))
    have HW9 : Hid (W9 = _) := hW9
    obtain ⟨b0, b1, b2, b3, q0, q1, q2, q3⟩ := four_cells B8
    obtain ⟨c0, c1, c2, c3, d0, d1, d2, d3⟩ := four_cells B9
    have HEND : Hid (LsEnd w W9 A B k n s (.slice av lv cv) k n s (.slice av8 lv8 cv8)) := ⟨n9, m9, A9, B9, hA9.rd3.wide (Nat.le_refl _) (by omega), hB9.rd3.wide (by omega) (by omega), hbw9⟩
    have hB8' : B < w8.heap.size := by omega
    have hB9' : B < W9.heap.size := by omega
    clear hW9
    by_cases hl : 0 < lv8
    · have hl' : (0 : Int) < (lv8 : Int) := by omega
      obtain ⟨hl3, g, cur, rfl, hcur, _, hlo, hhi, _⟩ := hB9.set 0 hl
      have hr9 : IsRow .u8 W9 a len cap zs := hr.later hbw9
      have hgd : W9.grownBy W9.drew (some (w.heap.size + 1 + 1)) := ⟨rfl, rfl, rfl, Nat.le_refl _, fun _ _ _ => rfl⟩
      have hBe := l1Below_any (w.heap.size + 1 + 1) len cap a zs (lv8 : Int) W9.drew (hc9.same rfl) (hr9.grown hgd HNE.out) HNE.out (by omega) hl' (by omega)
      have HDR : Hid (∀ V, Cur V (w.heap.size + 1 + 1) a len cap → W9.drew.grownBy V (some (w.heap.size + 1 + 1)) → _) := fun V hcV hgV => l2Draw_any 1 (by omega) (w.heap.size + 1 + 1) len cap a zs V hcV (hr9.grown (grownBy_trans hgd hgV) HNE.out) HNE.out (by omega)
      have HAFT : Hid (∀ (V w' : World) (i : Nat) (k3 n3 : Int) (s3 : ByteArray) (a3 : Option Addr) (l3 c3 : Nat), i < lv8 → W9.drew.grownBy V (some (w.heap.size + 1 + 1)) → DPost 2 (w.heap.size + 1 + 1) a len cap V w' (.agg #[.int .i64 k3, .int .i64 n3, .string s3, .slice a3 l3 c3]) → _) := fun V w' i k3 n3 s3 a3 l3 c3 hi hV hD => ls_aft rfl hwA hAB hzB hz8 hz9 n9 m9 A9 B9 hA9 hB9 hbw9 hi (grownBy_trans hgd hV) hD
      have HX3 : Hid (∀ V, W9.drew.grownBy V (some (w.heap.size + 1 + 1)) → V.cell? ⟨B, 3, none⟩ = some (.slice (some ⟨g, 0, none⟩) lv8 cv8)) := fun V hV => (four_cells (((grownBy_trans hgd hV).block B hB9' (by simp; omega)).trans B9)).2.2.2.1
      clear hA9 hB9 hbw9 hc9 A8 n8 m8 A9 n9 m9 hT9 hbw8 n7 m7 A7 B7 hb8 HEND hr9 hgd hcur B9
      go_wp2_with fail
      rw [← HW9.out]
      clear b0 b1 b2 b3 q0 q1 q2 q3 B8
      go_region_with (first
        | (go_at_call 39; refine hBe.mono ?_; rintro e V ⟨z, hz0, hz1, rfl, hcV, hgV⟩; obtain ⟨i, rfl⟩ : ∃ i : Nat, z = i := ⟨z.toNat, by omega⟩; have x3V := HX3.out V hgV; have hD := HDR.out V hcV hgV; rw [show ((1 : Nat) : Int) = 1 from rfl] at hD; have hilv : i < lv8 := by omega)
        | (go_at_call 24; refine hD.mono ?_; rintro e V2 ⟨k3, n3, s3, a3, l3, c3, rfl, HP3⟩; obtain ⟨x3W, ⟨y0, y1, y2, y3, e0, e1, e2, e3⟩, ⟨f0, f1, f2, f3⟩, _, HE⟩ := HAFT.out V V2 i k3 n3 s3 a3 l3 c3 hilv hgV HP3.out))
      all_goals
        clear x3V x3W e0 e1 e2 e3 f0 f1 f2 f3 hD hBe HX3 HP3
        generalize (((V2.setCell ⟨g, i * 4, none⟩ (.int .i64 k3)).setCell ⟨g, i * 4 + 1, none⟩ (.int .i64 n3)).setCell ⟨g, i * 4 + 2, none⟩ (.string s3)).setCell ⟨g, i * 4 + 3, none⟩ (.slice a3 l3 c3) = X at HE ⊢
        obtain ⟨a0, a1, a2, a3, p0, p1, p2, p3⟩ := four_cells HE.out.bA
        obtain ⟨b0, b1, b2, b3, q0, q1, q2, q3⟩ := four_cells HE.out.bB
        obtain ⟨r0, r1, r2, r3, v0, v1, v2, v3⟩ := four_cells HE.out.r0
        obtain ⟨t0, t1, t2, t3, u0, u1, u2, u3⟩ := four_cells HE.out.r1
        have hzA' := lt_of_row' HE.out.bA
        have hzB' := lt_of_row' HE.out.bB
        have HF : Hid (∀ Z, Tur2 w.heap.size (w.heap.size + 1) X Z → Rd3 w.heap.size Z.heap.size Z k n s (.slice av lv cv) ∧ Rd3 w.heap.size Z.heap.size Z k n s (.slice (some ⟨g, 0, none⟩) lv8 cv8) ∧ Below w.heap.size w Z) := fun Z hZ => ls_fin HE.out.ra HE.out.rb HE.out.bel hZ
        clear c0 c1 c2 d0 d1 d2 d3
        go_wp2_with fail
        go_region
        all_goals
          go_wp2_with fail
          refine bodyPost_ret (v := .tuple #[.agg #[.int .i64 k, .int .i64 n, .string s, .slice av lv cv], .agg #[.int .i64 k, .int .i64 n, .string s, .slice (some ⟨g, 0, none⟩) lv8 cv8]]) (by first | (simp [results, Try.results23, go_sem, r0, r1, r2, r3, t0, t1, t2, t3]; done) | (simp [results, Try.results23, go_sem, r0, r1, r2, r3, t0, t1, t2, t3]; rfl)) rfl ⟨k, n, s, _, _, _, k, n, s, _, _, _, rfl, HF.out _ ?_⟩
          repeat (first | with_reducible exact Tur2.refl _ _ _ | with_reducible refine Tur2.drew' ?_ | (with_reducible refine Tur2.set' ?_ ?_; omega))
    · obtain rfl : lv8 = 0 := by omega
      obtain ⟨a0, a1, a2, a3, p0, p1, p2, p3⟩ := four_cells A8
      obtain ⟨r0, r1, r2, r3, v0, v1, v2, v3⟩ := four_cells n8
      obtain ⟨t0, t1, t2, t3, u0, u1, u2, u3⟩ := four_cells m8
      have HF : Hid (∀ Z, Tur2 w.heap.size (w.heap.size + 1) W9 Z → Rd3 w.heap.size Z.heap.size Z k n s (.slice av lv cv) ∧ Rd3 w.heap.size Z.heap.size Z k n s (.slice av8 0 cv8) ∧ Below w.heap.size w Z) := fun Z hZ => ls_fin HEND.out.ra HEND.out.rb HEND.out.bel hZ
      rw [HW9.out] at HF
      clear hA9 hB9 hbw9 hc9 A8 B8 n8 m8 A9 B9 n9 m9 hT9 hbw8 c0 c1 c2 c3 d0 d1 d2 d3 n7 m7 A7 B7 hb8 HEND
      go_wp2_with fail
      go_region
      all_goals
        go_wp2_with fail
        refine bodyPost_ret (v := .tuple #[.agg #[.int .i64 k, .int .i64 n, .string s, .slice av lv cv], .agg #[.int .i64 k, .int .i64 n, .string s, .slice av8 0 cv8]]) (by first | (simp [results, Try.results23, go_sem, r0, r1, r2, r3, t0, t1, t2, t3]; done) | (simp [results, Try.results23, go_sem, r0, r1, r2, r3, t0, t1, t2, t3]; rfl)) rfl ⟨k, n, s, _, _, _, k, n, s, _, _, _, rfl, HF.out _ ?_⟩
        repeat (first | with_reducible exact Tur2.refl _ _ _ | with_reducible refine Tur2.drew' ?_ | (with_reducible refine Tur2.set' ?_ ?_; omega))

end Go.Proofs.Ytbllnmafilabpaa

/- The draw of three terms: the walk. -/
namespace Go.Proofs.Ytbllnmafilabpaa
open Go.RowKit
set_option linter.unusedVariables false

/-- Of all that was there only the blocks of a stretch are turned. -/
structure TurR (p q : Nat) (w w' : World) : Prop where
  os : w'.os = w.os
  tape : w'.tape = w.tape
  output : w'.output = w.output
  size : w.heap.size ≤ w'.heap.size
  block : ∀ g, g < w.heap.size → g < p ∨ q ≤ g → w'.heap[g]? = w.heap[g]?

theorem TurR.refl (p q : Nat) (w : World) : TurR p q w w := ⟨rfl, rfl, rfl, Nat.le_refl _, fun _ _ _ => rfl⟩
theorem TurR.trans {p q : Nat} {a b c : World} (h : TurR p q a b) (k : TurR p q b c) : TurR p q a c :=
  ⟨k.os.trans h.os, k.tape.trans h.tape, k.output.trans h.output, Nat.le_trans h.size k.size, fun g h1 h2 => (k.block g (Nat.lt_of_lt_of_le h1 h.size) h2).trans (h.block g h1 h2)⟩
theorem TurR.drew' {p q : Nat} {a w : World} (h : TurR p q a w) : TurR p q a w.drew := h.trans ⟨rfl, rfl, rfl, Nat.le_refl _, fun _ _ _ => rfl⟩
theorem TurR.set' {p q : Nat} {a w : World} {g o : Nat} {v : Value} (hg : p ≤ g ∧ g < q) (h : TurR p q a w) : TurR p q a (w.setCell ⟨g, o, none⟩ v) := by
  have t := Turned.of_set w g o v
  exact h.trans ⟨t.os, t.tape, t.output, t.size, fun x h1 h2 => t.block x h1 (by omega)⟩

set_option maxRecDepth 100000 in
set_option maxHeartbeats 2000000 in
theorem drawTerms_any (a : Option Addr) (len cap : Nat) (zs : List Int) (w : World) (hr : IsRow .u8 w a len cap zs) (hm : len ≤ 1048576) :
    Calls Try.prog 12 #[.slice a len cap] w fun e w' => ∃ k n s av lv cv k2 n2 s2 av2 lv2 cv2 k3 n3 s3 av3 lv3 cv3, e = .returned (.tuple #[.agg #[.int .i64 k, .int .i64 n, .string s, .slice av lv cv], .agg #[.int .i64 k2, .int .i64 n2, .string s2, .slice av2 lv2 cv2], .agg #[.int .i64 k3, .int .i64 n3, .string s3, .slice av3 lv3 cv3]]) ∧
      Hid (Rd3 w.heap.size w'.heap.size w' k n s (.slice av lv cv) ∧ Rd3 w.heap.size w'.heap.size w' k2 n2 s2 (.slice av2 lv2 cv2) ∧ Rd3 w.heap.size w'.heap.size w' k3 n3 s3 (.slice av3 lv3 cv3) ∧ Below w.heap.size w w') := by
  obtain ⟨W0, hW0⟩ : ∃ W, W = (w.alloc (.cells #[.int .i64 0, .int .i64 0, .string ⟨#[]⟩, .slice none 0 0] 26)).alloc (.cells #[.int .i64 0, .int .i64 0, .string ⟨#[]⟩, .slice none 0 0] 26) := ⟨_, rfl⟩
  have hz0 : W0.heap.size = w.heap.size + 1 + 1 := by rw [hW0]; simp
  have hb0 : Below w.heap.size w W0 := by rw [hW0]; exact ((Below.refl _ _).alloc (Nat.le_refl _) _).alloc (by simp) _
  obtain ⟨n0, m0⟩ := heap_two w (.cells #[.int .i64 0, .int .i64 0, .string ⟨#[]⟩, .slice none 0 0] 26) (.cells #[.int .i64 0, .int .i64 0, .string ⟨#[]⟩, .slice none 0 0] 26)
  rw [← hW0] at n0 m0
  obtain ⟨W1, hW1⟩ : ∃ W, W = W0.alloc (.cells #[.int .i64 0, .int .i64 0, .string ⟨#[]⟩, .slice none 0 0] 26) := ⟨_, rfl⟩
  have hz1 : W1.heap.size = w.heap.size + 1 + 1 + 1 := by rw [hW1]; simp [hz0]
  have hb01 : Below W0.heap.size W0 W1 := by rw [hW1]; exact (Below.refl _ _).alloc (Nat.le_refl _) _
  have hb1 : Below w.heap.size w W1 := hb0.trans (hb01.mono hb0.size)
  have n1 := (hb01.block _ (by omega)).trans n0
  have m1 := (hb01.block _ (by omega)).trans m0
  have l1 : W1.heap[w.heap.size + 1 + 1]? = some (.cells #[.int .i64 0, .int .i64 0, .string ⟨#[]⟩, .slice none 0 0] 26 (0, 0)) := by rw [hW1, ← hz0]; exact heap_alloc_new W0 _
  have hr1 := hr.later hb1
  have hne : ∀ x, a = some x → 0 < cap → x.block ≠ w.heap.size + 1 + 1 + 1 := by rw [← hz1]; exact isRow_old hr1
  have hN := l1New_any a len cap zs W1 hr1 (by omega)
  rw [hz1] at hN
  rw [hW1, hW0] at hN
  have HNE : Hid (∀ x, a = some x → 0 < cap → x.block ≠ w.heap.size + 1 + 1 + 1) := hne
  have HW1 : Hid (W1 = _) := hW1.trans (by rw [hW0])
  clear hW1 hne hW0 hb0 hb01 n0 m0 hz0
  go_enter Try.func12, Try.ntmps12
  go_wp2_with fail
  refine hN.mono ?_
  clear hN
  rintro e w2 ⟨rfl, hc2, hb2⟩
  rw [← HW1.out] at hb2
  have hb2' : Below W1.heap.size W1 w2 := by rw [hz1]; exact hb2
  have n2 := (hb2.block _ (by omega)).trans n1
  have m2 := (hb2.block _ (by omega)).trans m1
  have l2 := (hb2.block _ (by omega)).trans l1
  have hbw2 : Below w.heap.size w w2 := hb1.trans (hb2'.mono hb1.size)
  have hr2 := hr1.later hb2'
  have hz2 := hc2.lt
  have hD := drawLess_any a len cap zs w2 hr2 hm
  clear hr1 hb2 hb2' hb1 n1 m1 l1 HW1
  go_wp2_with fail
  refine hD.mono ?_
  clear hD
  rintro e w3 ⟨k, n, s, av, lv, cv, k2, x2, s2, av2, lv2, cv2, rfl, HP⟩
  obtain ⟨hA3, hB3, hb3⟩ := HP.out
  have hz3 := hb3.size
  obtain ⟨W4, hW4⟩ : ∃ W, W = (w3.alloc (.cells #[.int .i64 k, .int .i64 n, .string s, .slice av lv cv] 26)).alloc (.cells #[.int .i64 k2, .int .i64 x2, .string s2, .slice av2 lv2 cv2] 26) := ⟨_, rfl⟩
  have hb4 : Below w3.heap.size w3 W4 := by rw [hW4]; exact ((Below.refl _ _).alloc (Nat.le_refl _) _).alloc (by simp) _
  obtain ⟨A4, B4⟩ := heap_two w3 (.cells #[.int .i64 k, .int .i64 n, .string s, .slice av lv cv] 26) (.cells #[.int .i64 k2, .int .i64 x2, .string s2, .slice av2 lv2 cv2] 26)
  rw [← hW4] at A4 B4
  have hz4 : W4.heap.size = w3.heap.size + 1 + 1 := by rw [hW4]; simp
  have hb24 : Below w2.heap.size w2 W4 := hb3.trans (hb4.mono hb3.size)
  have n4 := (hb24.block _ (by omega)).trans n2
  have m4 := (hb24.block _ (by omega)).trans m2
  have l4 := (hb24.block _ (by omega)).trans l2
  have hc4 : Cur W4 (w.heap.size + 1 + 1 + 1) a len cap := hc2.same (hb24.block _ hc2.lt)
  have hr4 := hr2.later hb24
  have hbw4 : Below w.heap.size w W4 := hbw2.trans (hb24.mono hbw2.size)
  have hA4 : Rd3 (w.heap.size + 1 + 1 + 1 + 1) w3.heap.size W4 k n s (.slice av lv cv) := (hA3.frame fun g h1 h2 => hb4.block g h2).wide (by omega) (Nat.le_refl _)
  have hB4 : Rd3 (w.heap.size + 1 + 1 + 1 + 1) w3.heap.size W4 k2 x2 s2 (.slice av2 lv2 cv2) := (hB3.frame fun g h1 h2 => hb4.block g h2).wide (by omega) (Nat.le_refl _)
  have HW4 : Hid (W4 = _) := hW4
  clear hW4 hA3 hB3 hb3 hb4 hb24 n2 m2 l2 hc2 hr2 hbw2 HP
  go_wp2_with fail
  rw [← HW4.out]
  clear HW4
  have hgd : W4.grownBy W4.drew (some (w.heap.size + 1 + 1 + 1)) := ⟨rfl, rfl, rfl, Nat.le_refl _, fun _ _ _ => rfl⟩
  have hD := l2Draw_any 2 (by omega) (w.heap.size + 1 + 1 + 1) len cap a zs W4.drew (hc4.same rfl) (hr4.grown hgd HNE.out) HNE.out (by omega)
  rw [show ((2 : Nat) : Int) = 2 from rfl] at hD
  obtain ⟨A, hA⟩ : ∃ A, w3.heap.size = A := ⟨_, rfl⟩
  rw [hA] at A4 B4 hz4 hz3 hA4 hB4 ⊢
  have HAFT : Hid (∀ (w5 : World) (k3 n3 : Int) (s3 : ByteArray) (a3 : Option Addr) (l3 c3 : Nat), DPost 3 (w.heap.size + 1 + 1 + 1) a len cap W4.drew w5 (.agg #[.int .i64 k3, .int .i64 n3, .string s3, .slice a3 l3 c3]) →
      w5.heap[A]? = some (.cells #[.int .i64 k, .int .i64 n, .string s, .slice av lv cv] 26 (0, 0)) ∧ w5.heap[A + 1]? = some (.cells #[.int .i64 k2, .int .i64 x2, .string s2, .slice av2 lv2 cv2] 26 (0, 0)) ∧
      w5.heap[w.heap.size]? = some (.cells #[.int .i64 0, .int .i64 0, .string ⟨#[]⟩, .slice none 0 0] 26 (0, 0)) ∧ w5.heap[w.heap.size + 1]? = some (.cells #[.int .i64 0, .int .i64 0, .string ⟨#[]⟩, .slice none 0 0] 26 (0, 0)) ∧ w5.heap[w.heap.size + 1 + 1]? = some (.cells #[.int .i64 0, .int .i64 0, .string ⟨#[]⟩, .slice none 0 0] 26 (0, 0)) ∧ A + 1 < w5.heap.size ∧
      Hid (∀ Z, TurR w.heap.size (w.heap.size + 1 + 1 + 1) w5 Z → Rd3 w.heap.size Z.heap.size Z k n s (.slice av lv cv) ∧ Rd3 w.heap.size Z.heap.size Z k2 x2 s2 (.slice av2 lv2 cv2) ∧ Rd3 w.heap.size Z.heap.size Z k3 n3 s3 (.slice a3 l3 c3) ∧ Below w.heap.size w Z)) := fun w5 k3 n3 s3 a3 l3 c3 hP => by
    obtain ⟨hC5, hc5, hg5⟩ := own_draw hP
    have hg : W4.grownBy w5 (some (w.heap.size + 1 + 1 + 1)) := grownBy_trans hgd hg5
    have hz5 := hg.size
    have hbl : ∀ g, g < W4.heap.size → g ≠ w.heap.size + 1 + 1 + 1 → w5.heap[g]? = W4.heap[g]? := fun g h1 h2 => hg.block g h1 (by simp; omega)
    refine ⟨(hbl _ (by omega) (by omega)).trans A4, (hbl _ (by omega) (by omega)).trans B4, (hbl _ (by omega) (by omega)).trans n4, (hbl _ (by omega) (by omega)).trans m4, (hbl _ (by omega) (by omega)).trans l4, by omega, fun Z hZ => ?_⟩
    have hzZ := hZ.size
    have hbw5 : Below w.heap.size w w5 := hbw4.trans (grown_below hg (by omega) hbw4.size)
    have hzd : W4.drew.heap.size = W4.heap.size := rfl
    refine ⟨((hA4.frame (w' := w5) fun g h1 h2 => hbl g (by omega) (by omega)).frame fun g h1 h2 => hZ.block g (by omega) (by omega)).wide (by omega) (by omega), ((hB4.frame (w' := w5) fun g h1 h2 => hbl g (by omega) (by omega)).frame fun g h1 h2 => hZ.block g (by omega) (by omega)).wide (by omega) (by omega), (hC5.rd3.frame fun g h1 h2 => hZ.block g h2 (by omega)).wide (by omega) (by omega), ?_⟩
    exact ⟨hZ.os.trans hbw5.os, hZ.tape.trans hbw5.tape, hZ.output.trans hbw5.output, Nat.le_trans hbw5.size hZ.size, fun g hg => (hZ.block g (Nat.lt_of_lt_of_le hg hbw5.size) (by omega)).trans (hbw5.block g hg)⟩
  obtain ⟨a0, a1, a2, a3, p0, p1, p2, p3⟩ := four_cells A4
  obtain ⟨b0, b1, b2, b3, q0, q1, q2, q3⟩ := four_cells B4
  have hAw : w.heap.size + 1 + 1 + 1 < A := by omega
  clear A4 B4 n4 m4 l4 hA4 hB4 hc4 hr4 hbw4 hgd hA
  go_region_with (go_at_call 24; refine hD.mono ?_; rintro e w5 ⟨k3, n3, s3, av3, lv3, cv3, rfl, HP3⟩; obtain ⟨A5, B5, N5, M5, L5, hz5, HF⟩ := HAFT.out w5 k3 n3 s3 av3 lv3 cv3 HP3.out; obtain ⟨c0, c1, c2, c3, f0, f1, f2, f3⟩ := four_cells A5; obtain ⟨d0, d1, d2, d3, g0, g1, g2, g3⟩ := four_cells B5; obtain ⟨r0, r1, r2, r3, v0, v1, v2, v3⟩ := four_cells N5; obtain ⟨t0, t1, t2, t3, u0, u1, u2, u3⟩ := four_cells M5; obtain ⟨h0, h1, h2, h3, y0, y1, y2, y3⟩ := four_cells L5; clear A5 B5 N5 M5 L5)
  all_goals
    go_wp2_with fail
    refine bodyPost_ret (v := .tuple #[.agg #[.int .i64 k, .int .i64 n, .string s, .slice av lv cv], .agg #[.int .i64 k2, .int .i64 x2, .string s2, .slice av2 lv2 cv2], .agg #[.int .i64 k3, .int .i64 n3, .string s3, .slice av3 lv3 cv3]]) (by first | (simp [results, Try.results12, go_sem, r0, r1, r2, r3, t0, t1, t2, t3, h0, h1, h2, h3]; done) | (simp [results, Try.results12, go_sem, r0, r1, r2, r3, t0, t1, t2, t3, h0, h1, h2, h3]; rfl)) rfl ⟨k, n, s, _, _, _, k2, x2, s2, _, _, _, k3, n3, s3, _, _, _, rfl, HF.out _ ?_⟩
    repeat (first | with_reducible exact TurR.refl _ _ _ | with_reducible refine TurR.drew' ?_ | (with_reducible refine TurR.set' ?_ ?_; omega))

end Go.Proofs.Ytbllnmafilabpaa
