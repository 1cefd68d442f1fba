/- The law's own marks on texts; the program's names of an expression, as the law calls for them. -/
import Derived.Test.YtgeedoeaepcmcaaGreatDoorXk3M
import Derived.Test.YtgeedoeaepcmcaaGreatDoorNm2M
namespace Go.Proofs.YtgeedoeaepcmcaaGreatDoor
open Go.RowKit
set_option linter.unusedVariables false

theorem varsOf_any (d : Nat) (vs : List Value) (e : Ex d) (fp : List Nat) (w : World) (hown : ExO d w vs e fp) (hnd : fp.Nodup) (hlt : ∀ g ∈ fp, g < w.heap.size) (hz : szX d e ≤ 1048576) :
    Calls Tryz.prog 86 #[.agg vs.toArray] w fun r w' => ∃ v, r = .returned v ∧ Hid (StrRow w' w.heap.size v (vars d e)) ∧ Below w.heap.size w w' := by
  obtain ⟨i0, i1, s2, a3, l3, c3, a4, l4, c4, rfl⟩ := ExO.shape d w vs e fp hown
  obtain ⟨W, hW⟩ : ∃ W, W = w.alloc (Obj.cells #[.int .i64 i0, .int .i64 i1, .string s2, .slice a3 l3 c3, .slice a4 l4 c4] 39) := ⟨_, rfl⟩
  have hA : Below w.heap.size w W := by rw [hW]; exact (Below.refl _ _).alloc (Nat.le_refl _) _
  have hN := namesIn_any d _ e fp 33554432 w hown hnd hlt hz
  have hN1 := namesIn_any d _ e fp 33554432 W (ExO.lasts d _ _ _ _ _ hown fun g hg => hA.block g (hlt g hg)) hnd (fun g hg => Nat.lt_of_lt_of_le (hlt g hg) hA.size) hz
  rw [hW] at hN1
  have HW : Hid (W = _) := hW
  have HA : Hid (Below w.heap.size w W) := hA
  clear hown hnd hlt hz hW hA
  go_enter Tryz.func86, Tryz.ntmps86
  go_wp2_with fail
  first
    | (refine hN.mono ?_
       rintro r w1 ⟨v, rfl, HR, hb⟩
       go_wp2_with fail
       go_ret
       exact ⟨_, rfl, HR, hb⟩)
    | (refine hN1.mono ?_
       rintro r w1 ⟨v, rfl, HR, hb⟩
       rw [← HW.out] at hb HR
       have HR2 : Hid (StrRow w1 w.heap.size v (vars d e)) := HR.out.low HA.out.size
       go_wp2_with fail
       go_ret
       exact ⟨_, rfl, HR2, HA.out.trans (hb.mono HA.out.size)⟩)

end Go.Proofs.YtgeedoeaepcmcaaGreatDoor
