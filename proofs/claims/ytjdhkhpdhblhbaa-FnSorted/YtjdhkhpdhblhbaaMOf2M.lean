/- The parts of the walk through a term: what each function comes to. -/
import Derived.Test.YtjdhkhpdhblhbaaMOf1M
import Derived.Test.YtjdhkhpdhblhbaaIOkM
import Derived.Test.YtjdhkhpdhblhbaaGetTM
import Derived.Deep.RegionWith
namespace Go.Proofs.Ytjdhkhpdhblhbaa
open Go.RowKit
set_option linter.unusedVariables false

theorem eqPtrTerm (w : World) (x y : Addr) (hx : Plain w x) (hy : Plain w y) (d : Nat) : (Op.equalIn (d + 1) 58 (.pointer (some x)) (.pointer (some y))).run Try.prog w = .ok (decide (x = y)) w := by
  obtain ⟨i0, hi, hi0, hi1, hi2⟩ := info_parts Try.infoTerm
  by_cases h : x = y
  · subst h
    simp [Op.equalIn, run_underlying Try.underlying58, sizeOf, typeInfo, hi, run_sameAddr_same]
  · obtain ⟨c1, t1, h1⟩ := hx
    obtain ⟨c2, t2, h2⟩ := hy
    have hz : i0.size ≠ 0 := by rw [hi1]; decide
    simp [Op.equalIn, run_underlying Try.underlying58, sizeOf, typeInfo, hi, hz, run_sameAddr_other w h h1 h2, h]

theorem eqInt3 (w : World) (n m : Int) (d : Nat) : (Op.equalIn (d + 1) 3 (.int .i64 n) (.int .i64 m)).run Try.prog w = .ok (n == m) w := by
  simp [Op.equalIn, run_underlying Try.underlying3]

theorem eqSpot (w : World) (x y : Addr) (n m : Int) (hx : Plain w x) (hy : Plain w y) (d : Nat) : (Op.equalIn (d + 1 + 1) 86 (skey x n) (skey y m)).run Try.prog w = .ok (decide (x = y ∧ n = m)) w := by
  have hp := eqPtrTerm w x y hx hy d
  have hn := eqInt3 w n m d
  unfold skey
  rw [Op.equalIn]
  simp only [Sem.run_bind, run_underlying Try.underlying86, Result.andThen_ok]
  by_cases h : x = y
  · by_cases h2 : n = m
    · subst h h2
      simp [part, Try.isAgg58, Try.isAgg3, hp, hn, Result.andThen]
    · subst h
      simp [part, Try.isAgg58, Try.isAgg3, hp, hn, h2, Result.andThen]
  · simp [part, Try.isAgg58, hp, h, Result.andThen]

theorem chkSpot (w : World) (em : Bool) (x : Addr) (n : Int) (d : Nat) : (Instr.checkKey em (d + 1 + 1) 86 (skey x n)).run Try.prog w = .ok () w := by
  have h1 : (Instr.checkKey em (d + 1) 58 (.pointer (some x))).run Try.prog w = .ok () w := by
    rw [Instr.checkKey]; simp [run_underlying Try.underlying58]
  have h2 : (Instr.checkKey em (d + 1) 3 (.int .i64 n)).run Try.prog w = .ok () w := by
    rw [Instr.checkKey]; simp [run_underlying Try.underlying3]
  unfold skey
  rw [Instr.checkKey]
  simp [run_underlying Try.underlying86, part, Try.isAgg58, Try.isAgg3, h1, h2, Result.andThen]

theorem spotTerm : SpotTy Try.prog 86 where
  wide := by rw [Try.underlying86]
  eq := fun w x y n m hx hy => eqSpot w x y n m hx hy 9998
  chk := fun w em x n => chkSpot w em x n 9998

theorem plus_any (x y : Int) (w : World) (hx : 0 ≤ x) (hx1 : x ≤ 1125899906842624) (hy : 0 ≤ y) (hy1 : y ≤ 1125899906842624) : Calls Try.prog 74 #[.int .i64 x, .int .i64 y] w fun e w' => e = .returned (.int .i64 (x + y)) ∧ w = w' := by
  have h : decide (9223372036854775807 - y < x) = false := by simp; omega
  go_enter Try.func74, Try.ntmps74
  go_wp2
  go_ret
  exact ⟨rfl, rfl⟩

theorem spotOf_any (b o n c : Nat) (w : World) (hn : 0 < n) (hn1 : n ≤ 9223372036854775807) : Calls Try.prog 59 #[.slice (some ⟨b, o, none⟩) n c] w fun e w' => e = .returned (.agg #[.pointer (some ⟨b, o, none⟩), .int .i64 n]) ∧ Below w.heap.size w w' := by
  go_enter Try.func59, Try.ntmps59
  go_wp2
  refine bodyPost_ret (v := .agg #[.pointer (some ⟨b, o, none⟩), .int .i64 n]) (by first | (simp [results, Try.results59, go_sem]; done) | (simp [results, Try.results59, go_sem]; rfl)) rfl ⟨rfl, ?_⟩
  exact (Below.refl _ _).alloc (Nat.le_refl _) _

end Go.Proofs.Ytjdhkhpdhblhbaa

/- A measure is put to another one. -/
namespace Go.Proofs.Ytjdhkhpdhblhbaa
open Go.RowKit
set_option linter.unusedVariables false

set_option maxHeartbeats 4000000 in
/-- A measure is put to another one. -/
theorem add_any (g o : Nat) (vs : Array Value) (c p c2 p2 : Nat) (w : World) (hg : w.heap[g]? = some (.cells vs 77 (0, 0))) (h0 : vs[o]? = some (.int .i64 c)) (h1 : vs[o + 1]? = some (.int .i64 p)) (hc : c ≤ 1099511627776) (hp : p ≤ 1099511627776) (hc2 : c2 ≤ 1099511627776) (hp2 : p2 ≤ 1099511627776) :
    Calls Try.prog 58 #[.pointer (some ⟨g, o, none⟩), .agg #[.int .i64 c2, .int .i64 p2]] w fun e w' => e = .returned (.tuple #[]) ∧ w'.heap[g]? = some (.cells ((vs.setIfInBounds o (.int .i64 (c + (c2 + 1) : Nat))).setIfInBounds (o + 1) (.int .i64 (max p (p2 + 1) : Nat))) 77 (0, 0)) ∧ Turned g w w' := by
  have hgz : g < w.heap.size := Nat.lt_of_not_le fun h => by rw [Array.getElem?_eq_none h] at hg; cases hg
  have c0 : w.cell? ⟨g, o, none⟩ = some (.int .i64 c) := by rw [cell_of_row w _ o _ _ _ hg]; exact h0
  have c1 : w.cell? ⟨g, o + 1, none⟩ = some (.int .i64 p) := by rw [cell_of_row w _ (o + 1) _ _ _ hg]; exact h1
  have y0 : w.frozen? ⟨g, o, none⟩ = false := frozen_of_row w _ _ _ _ hg
  have y1 : w.frozen? ⟨g, o + 1, none⟩ = false := frozen_of_row w _ _ _ _ hg
  have HP : Hid (∀ (x y : Int) (W : World), 0 ≤ x → x ≤ 1125899906842624 → 0 ≤ y → y ≤ 1125899906842624 → Calls Try.prog 74 #[.int .i64 x, .int .i64 y] W fun e w' => e = .returned (.int .i64 (x + y)) ∧ W = w') := fun x y W a b c d => plus_any x y W a b c d
  go_enter Try.func58, Try.ntmps58
  go_wp2_with fail
  go_region_with (go_at_call 74; refine (HP.out _ _ _ (by omega) (by omega) (by omega) (by omega)).mono ?_; rintro e w' ⟨rfl, rfl⟩)
  all_goals
    obtain ⟨X, hX⟩ : ∃ X, X = ((w.setCell ⟨g, o, none⟩ (.int .i64 (↑c + (↑c2 + 1)))).alloc (.cells #[.int .i64 ↑c2, .int .i64 ↑p2] 56)).drew := ⟨_, rfl⟩
    rw [← hX]
    have hXg : X.heap[g]? = some (.cells (vs.setIfInBounds o (.int .i64 (↑c + (↑c2 + 1)))) 77 (0, 0)) := by
      rw [hX]
      exact (Below.heap_alloc _ _ g (by simp; exact hgz)).trans (heap_setCell_same w g o _ _ _ hg)
    have hXl : X.heap[w.heap.size]? = some (.cells #[.int .i64 ↑c2, .int .i64 ↑p2] 56 (0, 0)) := by
      rw [hX]
      have := heap_alloc_new (w.setCell ⟨g, o, none⟩ (.int .i64 (↑c + (↑c2 + 1)))) (.cells #[.int .i64 ↑c2, .int .i64 ↑p2] 56)
      rw [show (w.setCell ⟨g, o, none⟩ (.int .i64 (↑c + (↑c2 + 1)))).heap.size = w.heap.size from by simp] at this
      exact this
    have hT : Turned g w X := by
      rw [hX]
      exact (Turned.of_set w g o _).trans (Turned.of_below (((Below.refl _ _).alloc (Nat.le_refl _) _).drew))
    have d1 : X.cell? ⟨g, o + 1, none⟩ = some (.int .i64 p) := by
      rw [cell_of_row X _ (o + 1) _ _ _ hXg, Array.getElem?_setIfInBounds_ne (by omega)]; exact h1
    have l1 : X.cell? ⟨w.heap.size, 1, none⟩ = some (.int .i64 p2) := by rw [cell_of_row X _ 1 _ _ _ hXl]; rfl
    have z1 : X.frozen? ⟨g, o + 1, none⟩ = false := frozen_of_row X _ _ _ _ hXg
    have HF : Hid (∀ Z : World, Below X.heap.size (X.setCell ⟨g, o + 1, none⟩ (.int .i64 (if (p : Int) < p2 + 1 then (p2 : Int) + 1 else p))) Z → Z.heap[g]? = some (.cells ((vs.setIfInBounds o (.int .i64 (c + (c2 + 1) : Nat))).setIfInBounds (o + 1) (.int .i64 (max p (p2 + 1) : Nat))) 77 (0, 0)) ∧ Turned g w Z) := fun Z hZ => by
      have hz : g < X.heap.size := by have := hT.size; omega
      have e : (if (p : Int) < p2 + 1 then (p2 : Int) + 1 else p) = ((max p (p2 + 1) : Nat) : Int) := by split <;> omega
      have e2 : ((c : Int) + ((c2 : Int) + 1)) = ((c + (c2 + 1) : Nat) : Int) := by omega
      refine ⟨?_, hT.trans ((Turned.of_set X g (o + 1) _).trans (Turned.of_below (by simpa using hZ)))⟩
      rw [hZ.block g hz, heap_setCell_same X g (o + 1) _ _ _ hXg, e, e2]
    clear hX hXg hXl hT c0 c1 y0 y1 hg h0 h1
    go_wp2_with fail
    go_region_with (go_at_call 74; refine (HP.out _ _ _ (by omega) (by omega) (by omega) (by omega)).mono ?_; rintro e w' ⟨rfl, rfl⟩)
    all_goals
      go_end0
      exact ⟨rfl, HF.out _ ((Below.refl _ _).drew)⟩

end Go.Proofs.Ytjdhkhpdhblhbaa

/- What is known of a list. -/
namespace Go.Proofs.Ytjdhkhpdhblhbaa
open Go.RowKit
set_option linter.unusedVariables false

/-- What is known of a list. -/
theorem measureKnown_empty (a : Option Addr) (c : Nat) (m : Value) (w : World) : Calls Try.prog 57 #[m, .slice a 0 c] w fun e w' => e = .returned (.tuple #[.agg #[.int .i64 0, .int .i64 0], .bool true]) ∧ Below w.heap.size w w' := by
  go_enter Try.func57, Try.ntmps57
  go_wp2_with fail
  refine bodyPost_ret (v := .tuple #[.agg #[.int .i64 0, .int .i64 0], .bool true]) (by first | (simp [results, Try.results57, go_sem]; done) | (simp [results, Try.results57, go_sem]; rfl)) rfl ⟨rfl, ?_⟩
  exact (Below.refl _ _).alloc (Nat.le_refl _) _

theorem measureKnown_any (b o n c : Nat) (B : Nat) (f : Addr → Int → Option Value) (w : World) (hn : 0 < n) (hn1 : n ≤ 9223372036854775807) (hM : SMap w B f) (hp : Plain w ⟨b, o, none⟩) (x y : Int) (k : Bool) (hf : (f ⟨b, o, none⟩ n).getD (.agg #[.int .i64 0, .int .i64 0]) = .agg #[.int .i64 x, .int .i64 y]) (hk : (f ⟨b, o, none⟩ n).isSome = k) :
    Calls Try.prog 57 #[.map (some B), .slice (some ⟨b, o, none⟩) n c] w fun e w' => e = .returned (.tuple #[.agg #[.int .i64 x, .int .i64 y], .bool k]) ∧ Below w.heap.size w w' := by
  have hB := hM.lt
  have HS : Hid (∀ W : World, Calls Try.prog 59 #[.slice (some ⟨b, o, none⟩) n c] W fun e w' => e = .returned (.agg #[.pointer (some ⟨b, o, none⟩), .int .i64 n]) ∧ Below W.heap.size W w') := fun W => spotOf_any b o n c W hn hn1
  have HM : Hid (∀ W : World, Below w.heap.size w W → SMap W B f ∧ Plain W ⟨b, o, none⟩) := fun W hW => ⟨hM.kept (hW.block B hB) (fun x n v _ hx => hx.later hW), hp.later hW⟩
  clear hM hp
  go_enter Try.func57, Try.ntmps57
  go_wp2_with fail
  refine (HS.out _).mono ?_
  rintro e w1 ⟨rfl, hb⟩
  have hB1 : Below w.heap.size w w1 := ((Below.refl _ w).alloc (Nat.le_refl _) _).trans (hb.mono (by simp))
  have hz1 : w.heap.size < w1.heap.size := Nat.lt_of_lt_of_le (by simp) hb.size
  have hres : w1.heap[w.heap.size]? = some (.cells #[.int .i64 0, .int .i64 0] 56 (0, 0)) := (hb.block _ (by simp)).trans (heap_alloc_new w _)
  have r0 : w1.cell? ⟨w.heap.size, 0, none⟩ = some (.int .i64 0) := by rw [cell_of_row w1 _ 0 _ _ _ hres]; rfl
  have r1 : w1.cell? ⟨w.heap.size, 1, none⟩ = some (.int .i64 0) := by rw [cell_of_row w1 _ 1 _ _ _ hres]; rfl
  have q0 : w1.frozen? ⟨w.heap.size, 0, none⟩ = false := frozen_of_row w1 _ _ _ _ hres
  have q1 : w1.frozen? ⟨w.heap.size, 1, none⟩ = false := frozen_of_row w1 _ _ _ _ hres
  have hres2 := heap_setCell_same (w1.setCell ⟨w.heap.size, 0, none⟩ (.int .i64 x)) w.heap.size 1 _ _ (.int .i64 y) (heap_setCell_same w1 w.heap.size 0 _ _ (.int .i64 x) hres)
  have hres3 := (Below.heap_alloc ((w1.setCell ⟨w.heap.size, 0, none⟩ (.int .i64 x)).setCell ⟨w.heap.size, 1, none⟩ (.int .i64 y)) (.cells #[.int .i64 x, .int .i64 y] 56) w.heap.size (by simp; exact hz1)).trans hres2
  have s0 : (((w1.setCell ⟨w.heap.size, 0, none⟩ (.int .i64 x)).setCell ⟨w.heap.size, 1, none⟩ (.int .i64 y)).alloc (.cells #[.int .i64 x, .int .i64 y] 56)).cell? ⟨w.heap.size, 0, none⟩ = some (.int .i64 x) := by rw [cell_of_row _ _ 0 _ _ _ hres3]; rfl
  have s1 : (((w1.setCell ⟨w.heap.size, 0, none⟩ (.int .i64 x)).setCell ⟨w.heap.size, 1, none⟩ (.int .i64 y)).alloc (.cells #[.int .i64 x, .int .i64 y] 56)).cell? ⟨w.heap.size, 1, none⟩ = some (.int .i64 y) := by rw [cell_of_row _ _ 1 _ _ _ hres3]; rfl
  have HBZ : Hid (Below w.heap.size w (((w1.setCell ⟨w.heap.size, 0, none⟩ (.int .i64 x)).setCell ⟨w.heap.size, 1, none⟩ (.int .i64 y)).alloc (.cells #[.int .i64 x, .int .i64 y] 56))) := hB1.trans ((((Turned.of_set w1 w.heap.size 0 _).trans (Turned.of_set _ w.heap.size 1 _)).trans (Turned.of_below ((Below.refl _ _).alloc (Nat.le_refl _) _))).below (Nat.le_refl _) (by omega))
  have S0 : Hid (_ = _) := s0
  have S1 : Hid (_ = _) := s1
  clear hb hres hres2 hres3 s0 s1
  obtain ⟨hM1, hp1⟩ := HM.out _ hB1
  have hz : ∀ W : World, (zeroValue 56).run Try.prog W = .ok (.agg #[.int .i64 0, .int .i64 0]) W := fun W => Try.zeroValue56 W
  go_wp2_with (first | (at_lookup; refine wpList_look_spot _ rfl _ _ 75 rfl 86 56 spotTerm Try.underlying75 (hz _) B f rfl hM1 _ _ rfl hp1 ?_; rw [hf, hk]) | go_in)
  have s0 := S0.out
  have s1 := S1.out
  refine bodyPost_ret (v := .tuple #[.agg #[.int .i64 x, .int .i64 y], .bool k]) (by first | (simp [results, Try.results57, go_sem, s0, s1]; done) | (simp [results, Try.results57, go_sem, s0, s1]; rfl)) rfl ⟨rfl, HBZ.out⟩

@[go_sem] theorem meth_tparts (v : Value) (w : World) : (method 258 58 v "loop.example/g00236/impl.parts").run Try.prog w = .ok (108, v) w := by kernel_rfl
@[go_sem] theorem meth_ttext (v : Value) (w : World) : (method 258 58 v "loop.example/g00236/impl.text").run Try.prog w = .ok (109, v) w := by kernel_rfl

set_option maxRecDepth 100000 in
/-- Where the parts of a term stand. -/
theorem tpParts_any (b o : Nat) (w : World) : Calls Try.prog 108 #[.pointer (some ⟨b, o, none⟩)] w fun e w' => e = .returned (.pointer (some ⟨b, o + 3, none⟩)) ∧ w = w' := by
  go_enter Try.func108, Try.ntmps108
  go_wp2_with fail
  go_ret
  exact ⟨rfl, rfl⟩

set_option maxRecDepth 100000 in
/-- Where the text of a term stands. -/
theorem tpText_any (b o : Nat) (w : World) : Calls Try.prog 109 #[.pointer (some ⟨b, o, none⟩)] w fun e w' => e = .returned (.pointer (some ⟨b, o + 2, none⟩)) ∧ w = w' := by
  go_enter Try.func109, Try.ntmps109
  go_wp2_with fail
  go_ret
  exact ⟨rfl, rfl⟩

end Go.Proofs.Ytjdhkhpdhblhbaa
