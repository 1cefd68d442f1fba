/- The parts of the walk through a term: what each function comes to. -/
import Derived.Test.YtbllnmafilabpaaMOf1M
import Derived.Test.YtbllnmafilabpaaIOkM
import Derived.Test.YtbllnmafilabpaaGetTM
import Derived.Deep.RegionWith
namespace Go.Proofs.Ytbllnmafilabpaa
open Go.RowKit
set_option linter.unusedVariables false

theorem eqPtrTerm (w : World) (x y : Addr) (hx : Plain w x) (hy : Plain w y) (d : Nat) : (Op.equalIn (d + 1) 94 (.pointer (some x)) (.pointer (some y))).run Try.prog w = .ok (decide (x = y)) w := by
  obtain ⟨i0, hi, hi0, hi1, hi2⟩ := info_parts Try.infoTerm
  by_cases h : x = y
  · subst h
    simp [Op.equalIn, run_underlying Try.underlying94, sizeOf, typeInfo, hi, run_sameAddr_same]
  · obtain ⟨c1, t1, h1⟩ := hx
    obtain ⟨c2, t2, h2⟩ := hy
    have hz : i0.size ≠ 0 := by rw [hi1]; decide
    simp [Op.equalIn, run_underlying Try.underlying94, sizeOf, typeInfo, hi, hz, run_sameAddr_other w h h1 h2, h]

theorem eqInt3 (w : World) (n m : Int) (d : Nat) : (Op.equalIn (d + 1) 3 (.int .i64 n) (.int .i64 m)).run Try.prog w = .ok (n == m) w := by
  simp [Op.equalIn, run_underlying Try.underlying3]

theorem eqSpot (w : World) (x y : Addr) (n m : Int) (hx : Plain w x) (hy : Plain w y) (d : Nat) : (Op.equalIn (d + 1 + 1) 96 (skey x n) (skey y m)).run Try.prog w = .ok (decide (x = y ∧ n = m)) w := by
  have hp := eqPtrTerm w x y hx hy d
  have hn := eqInt3 w n m d
  unfold skey
  rw [Op.equalIn]
  simp only [Sem.run_bind, run_underlying Try.underlying96, Result.andThen_ok]
  by_cases h : x = y
  · by_cases h2 : n = m
    · subst h h2
      simp [part, Try.isAgg94, Try.isAgg3, hp, hn, Result.andThen]
    · subst h
      simp [part, Try.isAgg94, Try.isAgg3, hp, hn, h2, Result.andThen]
  · simp [part, Try.isAgg94, hp, h, Result.andThen]

theorem chkSpot (w : World) (em : Bool) (x : Addr) (n : Int) (d : Nat) : (Instr.checkKey em (d + 1 + 1) 96 (skey x n)).run Try.prog w = .ok () w := by
  have h1 : (Instr.checkKey em (d + 1) 94 (.pointer (some x))).run Try.prog w = .ok () w := by
    rw [Instr.checkKey]; simp [run_underlying Try.underlying94]
  have h2 : (Instr.checkKey em (d + 1) 3 (.int .i64 n)).run Try.prog w = .ok () w := by
    rw [Instr.checkKey]; simp [run_underlying Try.underlying3]
  unfold skey
  rw [Instr.checkKey]
  simp [run_underlying Try.underlying96, part, Try.isAgg94, Try.isAgg3, h1, h2, Result.andThen]

theorem spotTerm : SpotTy Try.prog 96 where
  wide := by rw [Try.underlying96]
  eq := fun w x y n m hx hy => eqSpot w x y n m hx hy 9998
  chk := fun w em x n => chkSpot w em x n 9998

theorem spotOf_any (b o n c : Nat) (w : World) (hn : 0 < n) (hn1 : n ≤ 9223372036854775807) : Calls Try.prog 57 #[.slice (some ⟨b, o, none⟩) n c] w fun e w' => e = .returned (.agg #[.pointer (some ⟨b, o, none⟩), .int .i64 n]) ∧ Below w.heap.size w w' := by
  go_enter Try.func57, Try.ntmps57
  go_wp2
  refine bodyPost_ret (v := .agg #[.pointer (some ⟨b, o, none⟩), .int .i64 n]) (by first | (simp [results, Try.results57, go_sem]; done) | (simp [results, Try.results57, go_sem]; rfl)) rfl ⟨rfl, ?_⟩
  exact (Below.refl _ _).alloc (Nat.le_refl _) _

end Go.Proofs.Ytbllnmafilabpaa

/- A measure is put to another one. -/
namespace Go.Proofs.Ytbllnmafilabpaa
open Go.RowKit
set_option linter.unusedVariables false

end Go.Proofs.Ytbllnmafilabpaa

/- What is known of a list. -/
namespace Go.Proofs.Ytbllnmafilabpaa
open Go.RowKit
set_option linter.unusedVariables false

end Go.Proofs.Ytbllnmafilabpaa
