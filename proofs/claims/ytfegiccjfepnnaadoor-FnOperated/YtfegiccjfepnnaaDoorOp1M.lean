/- An operation: the model's. -/
import Derived.Test.YtfegiccjfepnnaaDoorOp0M
import Derived.Test.YtfegiccjfepnnaaDoorXRead0M
import Derived.Test.YtfegiccjfepnnaaDoorTmM
namespace Go.Proofs.YtfegiccjfepnnaaDoor
open Go.RowKit
set_option linter.unusedVariables false

set_option maxRecDepth 100000 in
set_option maxHeartbeats 400000 in
theorem l8Bool_any (b : Bool) (w : World) : Calls Tryd.prog 34 #[.bool b] w fun e w' => e = .returned (.agg #[.int .i64 2, .int .i64 0, .string (if b then bTrue else bFalse), .slice none 0 0]) ∧ Below w.heap.size w w' := by
  have hA : ∀ o, Below w.heap.size w (w.alloc o) := fun o => (Below.refl _ _).alloc (Nat.le_refl _) _
  cases b
  · go_enter Tryd.func34, Tryd.ntmps34
    go_wp2_with fail
    refine bodyPost_ret (v := .agg #[.int .i64 2, .int .i64 0, .string bFalse, .slice none 0 0]) (by first | (simp [results, Tryd.results34, go_sem]; done) | (simp [results, Tryd.results34, go_sem]; rfl)) rfl ⟨rfl, ?_⟩
    exact hA _
  · go_enter Tryd.func34, Tryd.ntmps34
    go_wp2_with fail
    refine bodyPost_ret (v := .agg #[.int .i64 2, .int .i64 0, .string bTrue, .slice none 0 0]) (by first | (simp [results, Tryd.results34, go_sem]; done) | (simp [results, Tryd.results34, go_sem]; rfl)) rfl ⟨rfl, ?_⟩
    exact hA _

def absD (n : Int) : Int := if n < 0 then -n else n
set_option maxRecDepth 100000 in
theorem l8Abs_any (n : Int) (w : World) (h0 : -1000000000000 ≤ n) (h1 : n ≤ 1000000000000) : Calls Tryd.prog 37 #[.int .i64 n] w fun e w' => e = .returned (.int .i64 (absD n)) ∧ w = w' := by
  by_cases h : n < 0
  · have HF : Hid (-n = absD n) := by show _ = _; unfold absD; rw [if_pos h]
    go_enter Tryd.func37, Tryd.ntmps37
    go_wp2
    go_ret
    exact ⟨tret1 HF.out, rfl⟩
  · have HF : Hid (n = absD n) := by show _ = _; unfold absD; rw [if_neg h]
    go_enter Tryd.func37, Tryd.ntmps37
    go_wp2
    go_ret
    exact ⟨tret1 HF.out, rfl⟩

/-- A product is too great just if the one is greater than the bound by the other. -/
theorem mul_big {a b : Int} (ha : a ≠ 0) (hb : b ≠ 0) : (1000000000000 : Int).tdiv (absD b) < absD a ↔ ¬ (-1000000000000 ≤ a * b ∧ a * b ≤ 1000000000000) := by
  have pb : 0 < absD b := by unfold absD; split <;> omega
  have pa : 0 < absD a := by unfold absD; split <;> omega
  have hm : absD a * absD b = absD (a * b) := by
    unfold absD
    rcases Int.lt_or_lt_of_ne ha with h1 | h1 <;> rcases Int.lt_or_lt_of_ne hb with h2 | h2
    · have h3 : 0 < a * b := Int.mul_pos_of_neg_of_neg h1 h2
      rw [if_pos h1, if_pos h2, if_neg (by omega), Int.neg_mul_neg]
    · have h3 : a * b < 0 := Int.mul_neg_of_neg_of_pos h1 h2
      rw [if_pos h1, if_neg (by omega), if_pos h3, Int.neg_mul]
    · have h3 : a * b < 0 := Int.mul_neg_of_pos_of_neg h1 h2
      rw [if_neg (by omega), if_pos h2, if_pos h3, Int.mul_neg]
    · have h3 : 0 < a * b := Int.mul_pos h1 h2
      rw [if_neg (by omega), if_neg (by omega), if_neg (by omega)]
  have habs : absD (a * b) ≤ 1000000000000 ↔ (-1000000000000 ≤ a * b ∧ a * b ≤ 1000000000000) := by unfold absD; split <;> omega
  rw [Int.tdiv_eq_ediv_of_nonneg (by omega), Int.ediv_lt_iff_lt_mul pb, ← habs, hm]
  omega

end Go.Proofs.YtfegiccjfepnnaaDoor

/- An operation: the model's. -/
namespace Go.Proofs.YtfegiccjfepnnaaDoor
open Go.RowKit
set_option linter.unusedVariables false

theorem wrap64_op (n : Int) (h : -9223372036854775808 ≤ n ∧ n ≤ 9223372036854775807) : wrap64 n = n := by unfold wrap64; omega
theorem wrapI_op (n : Int) (h : -9223372036854775808 ≤ n ∧ n ≤ 9223372036854775807) : IntKind.i64.wrap n = n := by rw [IntKind.wrap_i64]; omega
theorem quo_in (b : Int) : -9223372036854775808 ≤ (1000000000000 : Int).tdiv (absD b) ∧ (1000000000000 : Int).tdiv (absD b) ≤ 9223372036854775807 := by
  have h0 : 0 ≤ absD b := by unfold absD; split <;> omega
  rw [Int.tdiv_eq_ediv_of_nonneg (by omega)]
  have h1 := Int.ediv_nonneg (a := 1000000000000) (by omega) h0
  have h2 := Int.ediv_le_self (a := 1000000000000) (absD b) (by omega)
  omega
theorem mk_same {d : Nat} {ka na : Int} {sa : ByteArray} {ta : List (Tm d)} {kb nb : Int} {sb : ByteArray} {tb : List (Tm d)} : mk ka na sa ta = mk kb nb sb tb ↔ ka = kb ∧ na = nb ∧ sa = sb ∧ ta = tb := by
  constructor
  · intro h
    cases h
    exact ⟨rfl, rfl, rfl, rfl⟩
  · rintro ⟨rfl, rfl, rfl, rfl⟩
    rfl
theorem in_op (x a b : Int) (w : World) : Calls Tryd.prog 38 #[.int .i64 x, .int .i64 a, .int .i64 b] w fun e w' => e = .returned (.bool (inI x a b)) ∧ w = w' := inI_any x a b w

set_option maxRecDepth 100000 in
set_option maxHeartbeats 4000000 in
theorem l8Operate_any {d : Nat} (op : ByteArray) (ka na : Int) (sa : ByteArray) (aa : Option Addr) (la ca : Nat) (ta : List (Tm d)) (kb nb : Int) (sb : ByteArray) (ab : Option Addr) (lb cb : Nat) (tb : List (Tm d)) (w : World)
    (ra : RdL d w (.slice aa la ca) ta) (rb : RdL d w (.slice ab lb cb) tb) (wa : WfL d ta) (wb : WfL d tb)
    (hra : Right d ka na sa ta 8 300) (hrb : Right d kb nb sb tb 8 300) (hop : OpP op) :
    Calls Tryd.prog 18 #[.string op, .agg #[.int .i64 ka, .int .i64 na, .string sa, .slice aa la ca], .agg #[.int .i64 kb, .int .i64 nb, .string sb, .slice ab lb cb]] w fun e w' => OpRes (opG op (mk ka na sa ta) (mk kb nb sb tb)) w e w' := by
  obtain ⟨RR, hRR⟩ : ∃ r, opG op (mk ka na sa ta) (mk kb nb sb tb) = r := ⟨_, rfl⟩
  have HRR : Hid (opG op (mk ka na sa ta) (mk kb nb sb tb) = RR) := hRR
  rw [hRR]
  clear hRR
  obtain ⟨W, hW⟩ : ∃ W, W = ((w.alloc (.cells #[.int .i64 ka, .int .i64 na, .string sa, .slice aa la ca] 28)).alloc (.cells #[.int .i64 kb, .int .i64 nb, .string sb, .slice ab lb cb] 28)).alloc (.cells #[.int .i64 0, .int .i64 0, .string ⟨#[]⟩, .slice none 0 0] 28) := ⟨_, rfl⟩
  obtain ⟨nA, nB, nR⟩ := heap_three w (.cells #[.int .i64 ka, .int .i64 na, .string sa, .slice aa la ca] 28) (.cells #[.int .i64 kb, .int .i64 nb, .string sb, .slice ab lb cb] 28) (.cells #[.int .i64 0, .int .i64 0, .string ⟨#[]⟩, .slice none 0 0] 28)
  rw [← hW] at nA nB nR
  have hA : Below w.heap.size w W := by rw [hW]; exact (((Below.refl _ _).alloc (Nat.le_refl _) _).alloc (by simp) _).alloc (by simp; omega) _
  have HB : Hid (Below w.heap.size w W) := hA
  have HBX : Hid (∀ V : World, Below W.heap.size W V → (V.cell? ⟨w.heap.size, 0, none⟩ = some (.int .i64 ka) ∧ V.cell? ⟨w.heap.size, 1, none⟩ = some (.int .i64 na) ∧ V.cell? ⟨w.heap.size, 2, none⟩ = some (.string sa) ∧ V.cell? ⟨w.heap.size, 3, none⟩ = some (.slice aa la ca)) ∧ (V.cell? ⟨w.heap.size + 1, 0, none⟩ = some (.int .i64 kb) ∧ V.cell? ⟨w.heap.size + 1, 1, none⟩ = some (.int .i64 nb) ∧ V.cell? ⟨w.heap.size + 1, 2, none⟩ = some (.string sb) ∧ V.cell? ⟨w.heap.size + 1, 3, none⟩ = some (.slice ab lb cb)) ∧ V.heap[w.heap.size + 1 + 1]? = some (.cells #[.int .i64 0, .int .i64 0, .string ⟨#[]⟩, .slice none 0 0] 28 (0, 0))) := fun V hV => by
    have mA := (hV.block _ (lt_row nA)).trans nA
    have mB := (hV.block _ (lt_row nB)).trans nB
    exact ⟨⟨by rw [cell_of_row V _ 0 _ _ _ mA]; rfl, by rw [cell_of_row V _ 1 _ _ _ mA]; rfl, by rw [cell_of_row V _ 2 _ _ _ mA]; rfl, by rw [cell_of_row V _ 3 _ _ _ mA]; rfl⟩, ⟨by rw [cell_of_row V _ 0 _ _ _ mB]; rfl, by rw [cell_of_row V _ 1 _ _ _ mB]; rfl, by rw [cell_of_row V _ 2 _ _ _ mB]; rfl, by rw [cell_of_row V _ 3 _ _ _ mB]; rfl⟩, (hV.block _ (lt_row nR)).trans nR⟩
  have HRB : Hid (∀ V : World, Below W.heap.size W V → (V.cell? ⟨w.heap.size + 1 + 1, 0, none⟩ = some (.int .i64 0) ∧ V.cell? ⟨w.heap.size + 1 + 1, 1, none⟩ = some (.int .i64 0) ∧ V.cell? ⟨w.heap.size + 1 + 1, 2, none⟩ = some (.string ⟨#[]⟩) ∧ V.cell? ⟨w.heap.size + 1 + 1, 3, none⟩ = some (.slice none 0 0)) ∧ V.frozen? ⟨w.heap.size + 1 + 1, 0, none⟩ = false ∧ V.frozen? ⟨w.heap.size + 1 + 1, 1, none⟩ = false ∧ V.frozen? ⟨w.heap.size + 1 + 1, 2, none⟩ = false ∧ V.frozen? ⟨w.heap.size + 1 + 1, 3, none⟩ = false) := fun V hV => by
    have mR := (HBX.out V hV).2.2
    exact ⟨⟨by rw [cell_of_row V _ 0 _ _ _ mR]; rfl, by rw [cell_of_row V _ 1 _ _ _ mR]; rfl, by rw [cell_of_row V _ 2 _ _ _ mR]; rfl, by rw [cell_of_row V _ 3 _ _ _ mR]; rfl⟩, frozen_of_row V _ _ _ _ mR, frozen_of_row V _ _ _ _ mR, frozen_of_row V _ _ _ _ mR, frozen_of_row V _ _ _ _ mR⟩
  have HST : Hid (∀ (V : World) (x0 x1 x2 x3 : Value), Below W.heap.size W V → Below w.heap.size w ((((V.setCell ⟨w.heap.size + 1 + 1, 0, none⟩ x0).setCell ⟨w.heap.size + 1 + 1, 0 + 1, none⟩ x1).setCell ⟨w.heap.size + 1 + 1, 0 + 2, none⟩ x2).setCell ⟨w.heap.size + 1 + 1, 0 + 3, none⟩ x3)) := fun V x0 x1 x2 x3 hV => (HB.out.trans (hV.mono HB.out.size)).trans ((stores4_below V (w.heap.size + 1 + 1) 0 x0 x1 x2 x3).mono (by omega))
  have HW : Hid (W = _) := hW
  unfold OpRes
  cases e4 : (op.toList == [61, 61]) with
  | true =>
    have hC := specSame_any d ka na sa _ ta kb nb sb _ tb W (ra.later hA) (rb.later hA) wa wb
    rw [hW] at hC
    have HQ : Hid (mk ka na sa ta = mk kb nb sb tb ↔ ka = kb ∧ na = nb ∧ sa = sb ∧ ta = tb) := mk_same
    clear ra rb wa wb hra hrb hop hA nA nB nR hW
    go_enter Tryd.func18, Tryd.ntmps18
    go_wp2_with fail
    refine hC.mono ?_
    clear hC
    rintro e V ⟨b, rfl, hb0, hB⟩
    rw [← HW.out] at hB
    have HV : Hid (Below W.heap.size W V) := hB
    have HPB : Hid (b = true ↔ mk ka na sa ta = mk kb nb sb tb) := hb0.trans HQ.out.symm
    have hC := l8Bool_any b V
    clear hB hb0
    go_wp2_with fail
    refine hC.mono ?_
    clear hC
    rintro e V2 ⟨rfl, hB2⟩
    have HV2 : Hid (Below W.heap.size W V2) := HV.out.trans (hB2.mono HV.out.size)
    clear hB2
    obtain ⟨⟨r0, r1, r2, r3⟩, z0, z1, z2, z3⟩ := HRB.out V2 HV2.out
    have HG : Hid (RR = (2, 0, if b then bTrue else bFalse, 0)) := by
      rw [← HRR.out]
      unfold opG
      rw [if_pos (by simpa using e4)]
      cases b with
      | true => rw [if_pos (HPB.out.1 rfl)]; rfl
      | false => rw [if_neg fun h => by have := HPB.out.2 h; cases this]; rfl
    obtain ⟨SS, hSS⟩ : ∃ x, (if b then bTrue else bFalse) = x := ⟨_, rfl⟩
    rw [hSS] at HG ⊢
    clear hSS
    go_wp2_with fail
    refine bodyPost_ret (v := .tuple #[.agg #[.int .i64 2, .int .i64 0, .string SS, .slice none 0 0], .int .i64 0]) (by first | (simp [results, Tryd.results18, go_sem, r0, r1, r2, r3]; done) | (simp [results, Tryd.results18, go_sem, r0, r1, r2, r3]; rfl)) rfl ⟨by rw [HG.out], HST.out V2 _ _ _ _ HV2.out⟩
  | false =>
  cases e5 : (op.toList == [60]) with
  | true =>
    have hC := specLess_any d ka na sa _ ta kb nb sb _ tb W (ra.later hA) (rb.later hA) wa wb
    rw [hW] at hC
    clear ra rb wa wb hra hrb hop hA nA nB nR hW
    go_enter Tryd.func18, Tryd.ntmps18
    go_wp2_with fail
    refine hC.mono ?_
    clear hC
    rintro e V ⟨b, rfl, hb, hB⟩
    rw [← HW.out] at hB
    have HV : Hid (Below W.heap.size W V) := hB
    have HPB : Hid (b = true ↔ Lt (d + 1) (mk ka na sa ta) (mk kb nb sb tb)) := hb
    have hC := l8Bool_any b V
    clear hB hb
    go_wp2_with fail
    refine hC.mono ?_
    clear hC
    rintro e V2 ⟨rfl, hB2⟩
    have HV2 : Hid (Below W.heap.size W V2) := HV.out.trans (hB2.mono HV.out.size)
    clear hB2
    obtain ⟨⟨r0, r1, r2, r3⟩, z0, z1, z2, z3⟩ := HRB.out V2 HV2.out
    have HG : Hid (RR = (2, 0, if b then bTrue else bFalse, 0)) := by
      rw [← HRR.out]
      unfold opG
      rw [if_neg (by simpa using e4), if_pos (by simpa using e5)]
      cases b with
      | true => rw [if_pos (HPB.out.1 rfl)]; rfl
      | false => rw [if_neg fun h => by have := HPB.out.2 h; cases this]; rfl
    obtain ⟨SS, hSS⟩ : ∃ x, (if b then bTrue else bFalse) = x := ⟨_, rfl⟩
    rw [hSS] at HG ⊢
    clear hSS
    go_wp2_with fail
    refine bodyPost_ret (v := .tuple #[.agg #[.int .i64 2, .int .i64 0, .string SS, .slice none 0 0], .int .i64 0]) (by first | (simp [results, Tryd.results18, go_sem, r0, r1, r2, r3]; done) | (simp [results, Tryd.results18, go_sem, r0, r1, r2, r3]; rfl)) rfl ⟨by rw [HG.out], HST.out V2 _ _ _ _ HV2.out⟩
  | false =>
  have HNE : Hid (¬ op.toList = [61, 61] ∧ ¬ op.toList = [60]) := ⟨by simpa using e4, by simpa using e5⟩
  have HZ : Hid (¬ (ka = 1 ∧ kb = 1) → RR = (0, 0, ⟨#[]⟩, 3)) := fun h => by
    rw [← HRR.out]
    unfold opG
    rw [if_neg HNE.out.1, if_neg HNE.out.2, if_neg fun q => h ⟨q.1, q.2.1⟩]
  by_cases hk : ka = 1
  case neg =>
    have hk' : (ka != 1) = true := by simp [hk]
    have HG : Hid (RR = (0, 0, ⟨#[]⟩, 3)) := HZ.out fun q => hk q.1
    obtain ⟨⟨r0, r1, r2, r3⟩, z0, z1, z2, z3⟩ := HRB.out W (Below.refl _ _)
    have HSTW : Hid (∀ o : Obj, Below w.heap.size w (((w.alloc (.cells #[.int .i64 ka, .int .i64 na, .string sa, .slice aa la ca] 28)).alloc (.cells #[.int .i64 kb, .int .i64 nb, .string sb, .slice ab lb cb] 28)).alloc o)) := fun o => (((Below.refl _ _).alloc (Nat.le_refl _) _).alloc (by simp) _).alloc (by simp; omega) _
    rw [hW] at r0 r1 r2 r3 z0 z1 z2 z3
    clear ra rb wa wb hra hrb hop hA nA nB nR hk hW
    go_enter Tryd.func18, Tryd.ntmps18
    go_wp2_with fail
    refine bodyPost_ret (v := .tuple #[.agg #[.int .i64 0, .int .i64 0, .string ⟨#[]⟩, .slice none 0 0], .int .i64 3]) (by first | (simp [results, Tryd.results18, go_sem]; done) | (simp [results, Tryd.results18, go_sem]; rfl)) rfl ⟨by rw [HG.out], HSTW.out _⟩
  by_cases hk2 : kb = 1
  case neg =>
    have hk' : (ka != 1) = false := by simp [hk]
    have hk2' : (kb != 1) = true := by simp [hk2]
    have HG : Hid (RR = (0, 0, ⟨#[]⟩, 3)) := HZ.out fun q => hk2 q.2
    obtain ⟨⟨r0, r1, r2, r3⟩, z0, z1, z2, z3⟩ := HRB.out W (Below.refl _ _)
    have HSTW : Hid (∀ o : Obj, Below w.heap.size w (((w.alloc (.cells #[.int .i64 ka, .int .i64 na, .string sa, .slice aa la ca] 28)).alloc (.cells #[.int .i64 kb, .int .i64 nb, .string sb, .slice ab lb cb] 28)).alloc o)) := fun o => (((Below.refl _ _).alloc (Nat.le_refl _) _).alloc (by simp) _).alloc (by simp; omega) _
    rw [hW] at r0 r1 r2 r3 z0 z1 z2 z3
    clear ra rb wa wb hra hrb hop hA nA nB nR hk hk2 hW
    go_enter Tryd.func18, Tryd.ntmps18
    go_wp2_with fail
    refine bodyPost_ret (v := .tuple #[.agg #[.int .i64 0, .int .i64 0, .string ⟨#[]⟩, .slice none 0 0], .int .i64 3]) (by first | (simp [results, Tryd.results18, go_sem]; done) | (simp [results, Tryd.results18, go_sem]; rfl)) rfl ⟨by rw [HG.out], HSTW.out _⟩
  have hk' : (ka != 1) = false := by simp [hk]
  have hk2' : (kb != 1) = false := by simp [hk2]
  have HK : Hid (ka = 1 ∧ kb = 1) := ⟨hk, hk2⟩
  have hna : -1000000000000 ≤ na ∧ na ≤ 1000000000000 := by have := hra.1; rw [hk] at this; exact ((shape1 _ _ _).1 this).1
  have hnb : -1000000000000 ≤ nb ∧ nb ≤ 1000000000000 := by have := hrb.1; rw [hk2] at this; exact ((shape1 _ _ _).1 this).1
  obtain ⟨hna0, hna1⟩ := hna
  obtain ⟨hnb0, hnb1⟩ := hnb
  have HNG : Hid (∀ r : Int, numD op na nb = r → (-1000000000000 ≤ r ∧ r ≤ 1000000000000 → RR = (1, r, ⟨#[]⟩, 0)) ∧ (¬ (-1000000000000 ≤ r ∧ r ≤ 1000000000000) → RR = (0, 0, ⟨#[]⟩, 3))) := fun r hr => by
    have hG : RR = if ka = 1 ∧ kb = 1 ∧ -1000000000000 ≤ numD op na nb ∧ numD op na nb ≤ 1000000000000 then (1, numD op na nb, ⟨#[]⟩, 0) else (0, 0, ⟨#[]⟩, 3) := by
      rw [← HRR.out]
      unfold opG
      rw [if_neg HNE.out.1, if_neg HNE.out.2]
      rfl
    rw [hr] at hG
    refine ⟨fun h => ?_, fun h => ?_⟩
    · rw [hG, if_pos ⟨HK.out.1, HK.out.2, h.1, h.2⟩]
    · rw [hG, if_neg fun q => h ⟨q.2.2.1, q.2.2.2⟩]
  obtain ⟨⟨r0, r1, r2, r3⟩, z0, z1, z2, z3⟩ := HRB.out W (Below.refl _ _)
  have HSTW : Hid (∀ o : Obj, Below w.heap.size w (((w.alloc (.cells #[.int .i64 ka, .int .i64 na, .string sa, .slice aa la ca] 28)).alloc (.cells #[.int .i64 kb, .int .i64 nb, .string sb, .slice ab lb cb] 28)).alloc o)) := fun o => (((Below.refl _ _).alloc (Nat.le_refl _) _).alloc (by simp) _).alloc (by simp; omega) _
  have HOP : Hid (OpP op) := hop
  clear ra rb wa wb hra hrb hop hA nA nB nR hk hk2
  cases e1 : (op.toList == [43]) with
  | true =>
    have HNM : Hid (numD op na nb = na + nb) := by show _ = _; unfold numD; rw [if_pos (by simpa using e1)]
    have hC := in_op (na + nb) (-1000000000000) 1000000000000
    rw [hW] at r0 r1 r2 r3 z0 z1 z2 z3
    clear hW
    go_enter Tryd.func18, Tryd.ntmps18
    go_wp2_with fail
    refine (hC _).mono ?_
    clear hC
    rintro e V ⟨rfl, hV⟩
    rw [← hV]
    clear hV
    by_cases hin : -1000000000000 ≤ na + nb ∧ na + nb ≤ 1000000000000
    · have hii : inI (na + nb) (-1000000000000) 1000000000000 = true := by simp [inI]; exact hin
      have HG : Hid (RR = (1, na + nb, ⟨#[]⟩, 0)) := (HNG.out _ HNM.out).1 hin
      rw [hii]
      clear hin hii
      go_wp2_with fail
      refine bodyPost_ret (v := .tuple #[.agg #[.int .i64 1, .int .i64 (na + nb), .string ⟨#[]⟩, .slice none 0 0], .int .i64 0]) (by first | (simp [results, Tryd.results18, go_sem]; done) | (simp [results, Tryd.results18, go_sem]; rfl)) rfl ⟨by rw [HG.out], HSTW.out _⟩
    · have hii : inI (na + nb) (-1000000000000) 1000000000000 = false := by rcases h : inI (na + nb) (-1000000000000) 1000000000000 with _ | _; rfl; exact absurd (by simpa [inI] using h) hin
      have HG : Hid (RR = (0, 0, ⟨#[]⟩, 3)) := (HNG.out _ HNM.out).2 hin
      rw [hii]
      clear hin hii
      go_wp2_with fail
      refine bodyPost_ret (v := .tuple #[.agg #[.int .i64 0, .int .i64 0, .string ⟨#[]⟩, .slice none 0 0], .int .i64 3]) (by first | (simp [results, Tryd.results18, go_sem]; done) | (simp [results, Tryd.results18, go_sem]; rfl)) rfl ⟨by rw [HG.out], HSTW.out _⟩
  | false =>
  cases e2 : (op.toList == [45]) with
  | true =>
    have HNM : Hid (numD op na nb = na - nb) := by show _ = _; unfold numD; rw [if_neg (by simpa using e1), if_pos (by simpa using e2)]
    have hC := in_op (na - nb) (-1000000000000) 1000000000000
    rw [hW] at r0 r1 r2 r3 z0 z1 z2 z3
    clear hW
    go_enter Tryd.func18, Tryd.ntmps18
    go_wp2_with fail
    refine (hC _).mono ?_
    clear hC
    rintro e V ⟨rfl, hV⟩
    rw [← hV]
    clear hV
    by_cases hin : -1000000000000 ≤ na - nb ∧ na - nb ≤ 1000000000000
    · have hii : inI (na - nb) (-1000000000000) 1000000000000 = true := by simp [inI]; exact hin
      have HG : Hid (RR = (1, na - nb, ⟨#[]⟩, 0)) := (HNG.out _ HNM.out).1 hin
      rw [hii]
      clear hin hii
      go_wp2_with fail
      refine bodyPost_ret (v := .tuple #[.agg #[.int .i64 1, .int .i64 (na - nb), .string ⟨#[]⟩, .slice none 0 0], .int .i64 0]) (by first | (simp [results, Tryd.results18, go_sem]; done) | (simp [results, Tryd.results18, go_sem]; rfl)) rfl ⟨by rw [HG.out], HSTW.out _⟩
    · have hii : inI (na - nb) (-1000000000000) 1000000000000 = false := by rcases h : inI (na - nb) (-1000000000000) 1000000000000 with _ | _; rfl; exact absurd (by simpa [inI] using h) hin
      have HG : Hid (RR = (0, 0, ⟨#[]⟩, 3)) := (HNG.out _ HNM.out).2 hin
      rw [hii]
      clear hin hii
      go_wp2_with fail
      refine bodyPost_ret (v := .tuple #[.agg #[.int .i64 0, .int .i64 0, .string ⟨#[]⟩, .slice none 0 0], .int .i64 3]) (by first | (simp [results, Tryd.results18, go_sem]; done) | (simp [results, Tryd.results18, go_sem]; rfl)) rfl ⟨by rw [HG.out], HSTW.out _⟩
  | false =>
    have HNM : Hid (numD op na nb = na * nb) := by show _ = _; unfold numD; rw [if_neg (by simpa using e1), if_neg (by simpa using e2)]
    have HAB : Hid (∀ (n : Int) (V : World), -1000000000000 ≤ n → n ≤ 1000000000000 → Calls Tryd.prog 37 #[.int .i64 n] V fun e w' => e = .returned (.int .i64 (absD n)) ∧ Below V.heap.size V w') := fun n V h0 h1 => (l8Abs_any n V h0 h1).mono fun e w' h => ⟨h.1, by rw [← h.2]; exact Below.refl _ _⟩
    obtain ⟨⟨x0, x1, x2, x3⟩, ⟨y0, y1, y2, y3⟩, _⟩ := HBX.out W (Below.refl _ _)
    have hn0 := After.some W
    have p0 := After.cell x1
    have p1 := After.cell y1
    clear r0 r1 r2 r3 z0 z1 z2 z3 x0 x1 x2 x3 y0 y1 y2 y3 HSTW
    by_cases hin : -1000000000000 ≤ na * nb ∧ na * nb ≤ 1000000000000
    · have HG : Hid (RR = (1, na * nb, ⟨#[]⟩, 0)) := (HNG.out _ HNM.out).1 hin
      have hii : inI (na * nb) (-1000000000000) 1000000000000 = true := by simp [inI]; exact hin
      have wm : wrap64 (na * nb) = na * nb := wrap64_op _ (by omega)
      have wm2 : IntKind.i64.wrap (na * nb) = na * nb := wrapI_op _ (by omega)
      by_cases c1 : na = 0
      · have c1' : (na != 0) = false := by simp [c1]
        clear c1 hin
        go_enter Tryd.func18, Tryd.ntmps18
        go_wp2_with fail
        rw [← hW]
        clear hW
        refine wp_region_after (by kernel_rfl) (by kernel_rfl) ?_
        repeat (go_big_quiet_step (fail))
        refine wpQuiet_nil ?_
        rintro _ ⟨nq, rfl⟩
        have HQ : Hid (Below W.heap.size W nq.now) := nq.bel
        obtain ⟨V, hV⟩ : ∃ V, nq.now = V := ⟨_, rfl⟩
        rw [hV] at HQ ⊢
        clear hV nq p0 p1 hn0
        obtain ⟨⟨x0, x1, x2, x3⟩, ⟨y0, y1, y2, y3⟩, _⟩ := HBX.out V HQ.out
        obtain ⟨⟨r0, r1, r2, r3⟩, z0, z1, z2, z3⟩ := HRB.out V HQ.out
        have hC := in_op (na * nb) (-1000000000000) 1000000000000 V
        go_wp2_with fail
        try rw [wm]
        refine hC.mono ?_
        clear hC
        rintro e V2 ⟨rfl, hV2⟩
        subst hV2
        rw [hii]
        go_wp2_with fail
        refine bodyPost_ret (v := .tuple #[.agg #[.int .i64 1, .int .i64 (na * nb), .string ⟨#[]⟩, .slice none 0 0], .int .i64 0]) (by first | (simp [results, Tryd.results18, go_sem, r0, r1, r2, r3]; done) | (simp [results, Tryd.results18, go_sem, r0, r1, r2, r3]; rfl)) rfl ⟨by rw [HG.out], HST.out V _ _ _ _ HQ.out⟩
      have c1' : (na != 0) = true := by simp [c1]
      by_cases c2 : nb = 0
      · have c2' : (nb != 0) = false := by simp [c2]
        clear c1 c2 hin
        go_enter Tryd.func18, Tryd.ntmps18
        go_wp2_with fail
        rw [← hW]
        clear hW
        refine wp_region_after (by kernel_rfl) (by kernel_rfl) ?_
        repeat (go_big_quiet_step (fail))
        refine wpQuiet_nil ?_
        rintro _ ⟨nq, rfl⟩
        have HQ : Hid (Below W.heap.size W nq.now) := nq.bel
        obtain ⟨V, hV⟩ : ∃ V, nq.now = V := ⟨_, rfl⟩
        rw [hV] at HQ ⊢
        clear hV nq p0 p1 hn0
        obtain ⟨⟨x0, x1, x2, x3⟩, ⟨y0, y1, y2, y3⟩, _⟩ := HBX.out V HQ.out
        obtain ⟨⟨r0, r1, r2, r3⟩, z0, z1, z2, z3⟩ := HRB.out V HQ.out
        have hC := in_op (na * nb) (-1000000000000) 1000000000000 V
        go_wp2_with fail
        try rw [wm]
        refine hC.mono ?_
        clear hC
        rintro e V2 ⟨rfl, hV2⟩
        subst hV2
        rw [hii]
        go_wp2_with fail
        refine bodyPost_ret (v := .tuple #[.agg #[.int .i64 1, .int .i64 (na * nb), .string ⟨#[]⟩, .slice none 0 0], .int .i64 0]) (by first | (simp [results, Tryd.results18, go_sem, r0, r1, r2, r3]; done) | (simp [results, Tryd.results18, go_sem, r0, r1, r2, r3]; rfl)) rfl ⟨by rw [HG.out], HST.out V _ _ _ _ HQ.out⟩
      have c2' : (nb != 0) = true := by simp [c2]
      have hq1 : ¬ (1000000000000 : Int).tdiv (absD nb) < absD na := fun h => (mul_big c1 c2).1 h hin
      obtain ⟨Q, hQ, wq⟩ : ∃ Q : Int, (1000000000000 : Int).tdiv (absD nb) = Q ∧ IntKind.i64.wrap ((1000000000000 : Int).tdiv (absD nb)) = Q := ⟨_, rfl, wrapI_op _ (quo_in nb)⟩
      have wq2 : wrap64 Q = Q := by rw [← hQ]; exact wrap64_op _ (quo_in nb)
      have wq3 : IntKind.i64.wrap Q = Q := by rw [← hQ]; exact wrapI_op _ (quo_in nb)
      rw [hQ] at hq1
      have hq : decide (Q < absD na) = false := by simp; omega
      have hq0 : ¬ absD nb = 0 := by unfold absD; split <;> omega
      clear c1 c2 hin
      go_enter Tryd.func18, Tryd.ntmps18
      go_wp2_with fail
      rw [← hW]
      clear hW
      refine wp_region_after (by kernel_rfl) (by kernel_rfl) ?_
      repeat (go_big_quiet_step ((first | (go_at_call 37; (with_reducible exact calls_after (HAB.out na _ hna0 hna1))) | (go_at_call 37; (with_reducible exact calls_after (HAB.out nb _ hnb0 hnb1))))))
      refine wpQuiet_nil ?_
      rintro _ ⟨nq, rfl⟩
      have HQ : Hid (Below W.heap.size W nq.now) := nq.bel
      obtain ⟨V, hV⟩ : ∃ V, nq.now = V := ⟨_, rfl⟩
      rw [hV] at HQ ⊢
      clear hV nq p0 p1 hn0
      obtain ⟨⟨x0, x1, x2, x3⟩, ⟨y0, y1, y2, y3⟩, _⟩ := HBX.out V HQ.out
      obtain ⟨⟨r0, r1, r2, r3⟩, z0, z1, z2, z3⟩ := HRB.out V HQ.out
      have hC := in_op (na * nb) (-1000000000000) 1000000000000 V
      go_wp2_with fail
      try rw [wm]
      refine hC.mono ?_
      clear hC
      rintro e V2 ⟨rfl, hV2⟩
      subst hV2
      rw [hii]
      go_wp2_with fail
      refine bodyPost_ret (v := .tuple #[.agg #[.int .i64 1, .int .i64 (na * nb), .string ⟨#[]⟩, .slice none 0 0], .int .i64 0]) (by first | (simp [results, Tryd.results18, go_sem, r0, r1, r2, r3]; done) | (simp [results, Tryd.results18, go_sem, r0, r1, r2, r3]; rfl)) rfl ⟨by rw [HG.out], HST.out V _ _ _ _ HQ.out⟩
    · have HG : Hid (RR = (0, 0, ⟨#[]⟩, 3)) := (HNG.out _ HNM.out).2 hin
      have c1 : na ≠ 0 := fun h => hin (by rw [h, Int.zero_mul]; omega)
      have c2 : nb ≠ 0 := fun h => hin (by rw [h, Int.mul_zero]; omega)
      have c1' : (na != 0) = true := by simp [c1]
      have c2' : (nb != 0) = true := by simp [c2]
      have hq1 : (1000000000000 : Int).tdiv (absD nb) < absD na := (mul_big c1 c2).2 hin
      obtain ⟨Q, hQ, wq⟩ : ∃ Q : Int, (1000000000000 : Int).tdiv (absD nb) = Q ∧ IntKind.i64.wrap ((1000000000000 : Int).tdiv (absD nb)) = Q := ⟨_, rfl, wrapI_op _ (quo_in nb)⟩
      have wq2 : wrap64 Q = Q := by rw [← hQ]; exact wrap64_op _ (quo_in nb)
      have wq3 : IntKind.i64.wrap Q = Q := by rw [← hQ]; exact wrapI_op _ (quo_in nb)
      rw [hQ] at hq1
      have hq : decide (Q < absD na) = true := by simp; omega
      have hq0 : ¬ absD nb = 0 := by unfold absD; split <;> omega
      clear c1 c2 hin
      go_enter Tryd.func18, Tryd.ntmps18
      go_wp2_with fail
      rw [← hW]
      clear hW
      refine wp_region_after (by kernel_rfl) (by kernel_rfl) ?_
      repeat (go_big_quiet_step ((first | (go_at_call 37; (with_reducible exact calls_after (HAB.out na _ hna0 hna1))) | (go_at_call 37; (with_reducible exact calls_after (HAB.out nb _ hnb0 hnb1))))))
      refine wpQuiet_nil ?_
      rintro _ ⟨nq, rfl⟩
      have HQ : Hid (Below W.heap.size W nq.now) := nq.bel
      obtain ⟨V, hV⟩ : ∃ V, nq.now = V := ⟨_, rfl⟩
      rw [hV] at HQ ⊢
      clear hV nq p0 p1 hn0
      obtain ⟨⟨x0, x1, x2, x3⟩, ⟨y0, y1, y2, y3⟩, _⟩ := HBX.out V HQ.out
      obtain ⟨⟨r0, r1, r2, r3⟩, z0, z1, z2, z3⟩ := HRB.out V HQ.out
      go_wp2_with fail
      refine bodyPost_ret (v := .tuple #[.agg #[.int .i64 0, .int .i64 0, .string ⟨#[]⟩, .slice none 0 0], .int .i64 3]) (by first | (simp [results, Tryd.results18, go_sem, r0, r1, r2, r3]; done) | (simp [results, Tryd.results18, go_sem, r0, r1, r2, r3]; rfl)) rfl ⟨by rw [HG.out], HST.out V _ _ _ _ HQ.out⟩

end Go.Proofs.YtfegiccjfepnnaaDoor

/- An operation: the model's, on. -/
namespace Go.Proofs.YtfegiccjfepnnaaDoor
open Go.RowKit
set_option linter.unusedVariables false

set_option maxRecDepth 100000 in
set_option maxHeartbeats 4000000 in
theorem specOperate_any {d : Nat} (op : ByteArray) (ka na : Int) (sa : ByteArray) (aa : Option Addr) (la ca : Nat) (ta : List (Tm d)) (kb nb : Int) (sb : ByteArray) (ab : Option Addr) (lb cb : Nat) (tb : List (Tm d)) (w : World)
    (ra : RdL d w (.slice aa la ca) ta) (rb : RdL d w (.slice ab lb cb) tb) (wa : WfL d ta) (wb : WfL d tb) (hsa : sa.size ≤ 9223372036854775807) (hsb : sb.size ≤ 9223372036854775807) :
    Calls Tryd.prog 6 #[.string op, .agg #[.int .i64 ka, .int .i64 na, .string sa, .slice aa la ca], .agg #[.int .i64 kb, .int .i64 nb, .string sb, .slice ab lb cb]] w fun e w' => OpRes (opD op (mk ka na sa ta) (mk kb nb sb tb)) w e w' := by
  obtain ⟨RR, hRR⟩ : ∃ r, opD op (mk ka na sa ta) (mk kb nb sb tb) = r := ⟨_, rfl⟩
  have HRR : Hid (opD op (mk ka na sa ta) (mk kb nb sb tb) = RR) := hRR
  rw [hRR]
  clear hRR
  obtain ⟨W, hW⟩ : ∃ W, W = ((w.alloc (.cells #[.int .i64 ka, .int .i64 na, .string sa, .slice aa la ca] 28)).alloc (.cells #[.int .i64 kb, .int .i64 nb, .string sb, .slice ab lb cb] 28)).alloc (.cells #[.int .i64 0, .int .i64 0, .string ⟨#[]⟩, .slice none 0 0] 28) := ⟨_, rfl⟩
  obtain ⟨nA, nB, nR⟩ := heap_three w (.cells #[.int .i64 ka, .int .i64 na, .string sa, .slice aa la ca] 28) (.cells #[.int .i64 kb, .int .i64 nb, .string sb, .slice ab lb cb] 28) (.cells #[.int .i64 0, .int .i64 0, .string ⟨#[]⟩, .slice none 0 0] 28)
  rw [← hW] at nA nB nR
  have hA : Below w.heap.size w W := by rw [hW]; exact (((Below.refl _ _).alloc (Nat.le_refl _) _).alloc (by simp) _).alloc (by simp; omega) _
  have HB : Hid (Below w.heap.size w W) := hA
  have HBX : Hid (∀ V : World, Below W.heap.size W V → (V.cell? ⟨w.heap.size, 0, none⟩ = some (.int .i64 ka) ∧ V.cell? ⟨w.heap.size, 1, none⟩ = some (.int .i64 na) ∧ V.cell? ⟨w.heap.size, 2, none⟩ = some (.string sa) ∧ V.cell? ⟨w.heap.size, 3, none⟩ = some (.slice aa la ca)) ∧ (V.cell? ⟨w.heap.size + 1, 0, none⟩ = some (.int .i64 kb) ∧ V.cell? ⟨w.heap.size + 1, 1, none⟩ = some (.int .i64 nb) ∧ V.cell? ⟨w.heap.size + 1, 2, none⟩ = some (.string sb) ∧ V.cell? ⟨w.heap.size + 1, 3, none⟩ = some (.slice ab lb cb)) ∧ V.heap[w.heap.size + 1 + 1]? = some (.cells #[.int .i64 0, .int .i64 0, .string ⟨#[]⟩, .slice none 0 0] 28 (0, 0))) := fun V hV => by
    have mA := (hV.block _ (lt_row nA)).trans nA
    have mB := (hV.block _ (lt_row nB)).trans nB
    exact ⟨⟨by rw [cell_of_row V _ 0 _ _ _ mA]; rfl, by rw [cell_of_row V _ 1 _ _ _ mA]; rfl, by rw [cell_of_row V _ 2 _ _ _ mA]; rfl, by rw [cell_of_row V _ 3 _ _ _ mA]; rfl⟩, ⟨by rw [cell_of_row V _ 0 _ _ _ mB]; rfl, by rw [cell_of_row V _ 1 _ _ _ mB]; rfl, by rw [cell_of_row V _ 2 _ _ _ mB]; rfl, by rw [cell_of_row V _ 3 _ _ _ mB]; rfl⟩, (hV.block _ (lt_row nR)).trans nR⟩
  have HRB : Hid (∀ V : World, Below W.heap.size W V → (V.cell? ⟨w.heap.size + 1 + 1, 0, none⟩ = some (.int .i64 0) ∧ V.cell? ⟨w.heap.size + 1 + 1, 1, none⟩ = some (.int .i64 0) ∧ V.cell? ⟨w.heap.size + 1 + 1, 2, none⟩ = some (.string ⟨#[]⟩) ∧ V.cell? ⟨w.heap.size + 1 + 1, 3, none⟩ = some (.slice none 0 0)) ∧ V.frozen? ⟨w.heap.size + 1 + 1, 0, none⟩ = false ∧ V.frozen? ⟨w.heap.size + 1 + 1, 1, none⟩ = false ∧ V.frozen? ⟨w.heap.size + 1 + 1, 2, none⟩ = false ∧ V.frozen? ⟨w.heap.size + 1 + 1, 3, none⟩ = false) := fun V hV => by
    have mR := (HBX.out V hV).2.2
    exact ⟨⟨by rw [cell_of_row V _ 0 _ _ _ mR]; rfl, by rw [cell_of_row V _ 1 _ _ _ mR]; rfl, by rw [cell_of_row V _ 2 _ _ _ mR]; rfl, by rw [cell_of_row V _ 3 _ _ _ mR]; rfl⟩, frozen_of_row V _ _ _ _ mR, frozen_of_row V _ _ _ _ mR, frozen_of_row V _ _ _ _ mR, frozen_of_row V _ _ _ _ mR⟩
  have HST : Hid (∀ (V : World) (x0 x1 x2 x3 : Value), Below W.heap.size W V → Below w.heap.size w ((((V.setCell ⟨w.heap.size + 1 + 1, 0, none⟩ x0).setCell ⟨w.heap.size + 1 + 1, 0 + 1, none⟩ x1).setCell ⟨w.heap.size + 1 + 1, 0 + 2, none⟩ x2).setCell ⟨w.heap.size + 1 + 1, 0 + 3, none⟩ x3)) := fun V x0 x1 x2 x3 hV => (HB.out.trans (hV.mono HB.out.size)).trans ((stores4_below V (w.heap.size + 1 + 1) 0 x0 x1 x2 x3).mono (by omega))
  have HW : Hid (W = _) := hW
  have HNO : Hid (¬ (OpP op ∧ Right d ka na sa ta 8 300 ∧ Right d kb nb sb tb 8 300) → RR = (0, 0, ⟨#[]⟩, 1)) := fun h => by
    rw [← HRR.out]
    unfold opD
    exact if_neg h
  have HTA : Hid (∀ V : World, Below w.heap.size w V → _) := fun V hV => specTermOk_any d ka na sa _ ta V (ra.later hV) wa hsa
  have HTB : Hid (∀ V : World, Below w.heap.size w V → _) := fun V hV => specTermOk_any d kb nb sb _ tb V (rb.later hV) wb hsb
  have HOA : Hid (∀ V : World, Below w.heap.size w V → Right d ka na sa ta 8 300 → Right d kb nb sb tb 8 300 → OpP op → _) := fun V hV h1 h2 h3 => l8Operate_any op ka na sa aa la ca ta kb nb sb ab lb cb tb V (ra.later hV) (rb.later hV) wa wb h1 h2 h3
  have hC := l4Op_any op W
  rw [hW] at hC
  unfold OpRes
  clear ra rb wa wb hA nA nB nR hW
  go_enter Tryd.func6, Tryd.ntmps6
  go_wp2_with fail
  refine hC.mono ?_
  clear hC
  rintro e V ⟨b, rfl, hb, hV⟩
  rw [← HW.out] at hV
  subst hV
  obtain ⟨⟨r0, r1, r2, r3⟩, z0, z1, z2, z3⟩ := HRB.out W (Below.refl _ _)
  obtain ⟨⟨x0, x1, x2, x3⟩, ⟨y0, y1, y2, y3⟩, _⟩ := HBX.out W (Below.refl _ _)
  cases b with
  | false =>
    have HG : Hid (RR = (0, 0, ⟨#[]⟩, 1)) := HNO.out fun h => by have := hb.out.2 h.1; cases this
    clear hb
    go_wp2_with fail
    refine bodyPost_ret (v := .tuple #[.agg #[.int .i64 0, .int .i64 0, .string ⟨#[]⟩, .slice none 0 0], .int .i64 1]) (by first | (simp [results, Tryd.results6, go_sem, r0, r1, r2, r3]; done) | (simp [results, Tryd.results6, go_sem, r0, r1, r2, r3]; rfl)) rfl ⟨by rw [HG.out], HST.out W _ _ _ _ (Below.refl _ _)⟩
  | true =>
  have HOP : Hid (OpP op) := hb.out.1 rfl
  clear hb
  have hC := HTA.out W HB.out
  go_wp2_with fail
  refine hC.mono ?_
  clear hC r0 r1 r2 r3 z0 z1 z2 z3 x0 x1 x2 x3 y0 y1 y2 y3
  rintro e V ⟨b, rfl, hb, hB⟩
  have HV : Hid (Below W.heap.size W V) := hB
  have HVw : Hid (Below w.heap.size w V) := HB.out.trans (hB.mono HB.out.size)
  clear hB
  obtain ⟨⟨r0, r1, r2, r3⟩, z0, z1, z2, z3⟩ := HRB.out V HV.out
  obtain ⟨⟨x0, x1, x2, x3⟩, ⟨y0, y1, y2, y3⟩, _⟩ := HBX.out V HV.out
  cases b with
  | false =>
    have HG : Hid (RR = (0, 0, ⟨#[]⟩, 1)) := HNO.out fun h => by have := hb.2 h.2.1; cases this
    clear hb
    go_wp2_with fail
    refine bodyPost_ret (v := .tuple #[.agg #[.int .i64 0, .int .i64 0, .string ⟨#[]⟩, .slice none 0 0], .int .i64 1]) (by first | (simp [results, Tryd.results6, go_sem, r0, r1, r2, r3]; done) | (simp [results, Tryd.results6, go_sem, r0, r1, r2, r3]; rfl)) rfl ⟨by rw [HG.out], HST.out V _ _ _ _ HV.out⟩
  | true =>
  have HRA : Hid (Right d ka na sa ta 8 300) := hb.1 rfl
  clear hb
  have hC := HTB.out V HVw.out
  go_wp2_with fail
  refine hC.mono ?_
  clear hC r0 r1 r2 r3 z0 z1 z2 z3 x0 x1 x2 x3 y0 y1 y2 y3
  rintro e V2 ⟨b, rfl, hb, hB⟩
  have HV2 : Hid (Below W.heap.size W V2) := HV.out.trans (hB.mono HV.out.size)
  have HV2w : Hid (Below w.heap.size w V2) := HVw.out.trans (hB.mono HVw.out.size)
  clear hB
  obtain ⟨⟨r0, r1, r2, r3⟩, z0, z1, z2, z3⟩ := HRB.out V2 HV2.out
  obtain ⟨⟨x0, x1, x2, x3⟩, ⟨y0, y1, y2, y3⟩, _⟩ := HBX.out V2 HV2.out
  cases b with
  | false =>
    have HG : Hid (RR = (0, 0, ⟨#[]⟩, 1)) := HNO.out fun h => by have := hb.2 h.2.2; cases this
    clear hb
    go_wp2_with fail
    refine bodyPost_ret (v := .tuple #[.agg #[.int .i64 0, .int .i64 0, .string ⟨#[]⟩, .slice none 0 0], .int .i64 1]) (by first | (simp [results, Tryd.results6, go_sem, r0, r1, r2, r3]; done) | (simp [results, Tryd.results6, go_sem, r0, r1, r2, r3]; rfl)) rfl ⟨by rw [HG.out], HST.out V2 _ _ _ _ HV2.out⟩
  | true =>
  have HRB2 : Hid (Right d kb nb sb tb 8 300) := hb.1 rfl
  clear hb
  have hC := HOA.out V2 HV2w.out HRA.out HRB2.out HOP.out
  have HG : Hid (opG op (mk ka na sa ta) (mk kb nb sb tb) = RR) := by
    rw [← HRR.out]
    unfold opD
    exact (if_pos ⟨HOP.out, HRA.out, HRB2.out⟩).symm
  rw [HG.out] at hC
  obtain ⟨R0, R1, R2, R3⟩ := RR
  unfold OpRes at hC
  go_wp2_with fail
  refine hC.mono ?_
  clear hC r0 r1 r2 r3 z0 z1 z2 z3 x0 x1 x2 x3 y0 y1 y2 y3
  rintro e V3 ⟨rfl, hB⟩
  have HV3 : Hid (Below W.heap.size W V3) := HV2.out.trans (hB.mono HV2.out.size)
  clear hB
  obtain ⟨⟨r0, r1, r2, r3⟩, z0, z1, z2, z3⟩ := HRB.out V3 HV3.out
  go_wp2_with fail
  refine bodyPost_ret (v := .tuple #[.agg #[.int .i64 R0, .int .i64 R1, .string R2, .slice none 0 0], .int .i64 R3]) (by first | (simp [results, Tryd.results6, go_sem, r0, r1, r2, r3]; done) | (simp [results, Tryd.results6, go_sem, r0, r1, r2, r3]; rfl)) rfl ⟨rfl, HST.out V3 _ _ _ _ HV3.out⟩

end Go.Proofs.YtfegiccjfepnnaaDoor
