/- SameTerm at equal terms, also those of no kind. -/
import Derived.Test.YtegfbpidlopfoaaOdM
import Derived.Test.YtegfbpidlopfoaaConvM
namespace Go.Proofs.Ytegfbpidlopfoaa
open Go.RowKit
set_option linter.unusedVariables false

theorem RootOk.later {w w' : World} {k n : Int} {s : ByteArray} {la lb : Value} {C : Nat} (h : RootOk w k n s la lb C) (hb : Below w.heap.size w w') : RootOk w' k n s la lb C := by
  obtain ⟨d, ts, h1, h2, h3⟩ := h
  exact ⟨d, ts, h1.later hb, h2.later hb, h3⟩

theorem sameTerm_root (k n : Int) (s : ByteArray) (a1 a2 : Option Addr) (len c1 c2 C : Nat) (w : World) (hok : RootOk w k n s (.slice a1 len c1) (.slice a2 len c2) C) (hcn : C ≤ 300) :
    Calls Try.prog 8 #[.agg #[.int .i64 k, .int .i64 n, .string s, .slice a1 len c1], .agg #[.int .i64 k, .int .i64 n, .string s, .slice a2 len c2]] w fun e w' => e = .returned (.bool true) ∧ Below w.heap.size w w' := by
  obtain ⟨W, hW⟩ : ∃ W, W = (w.alloc (.cells #[.int .i64 k, .int .i64 n, .string s, .slice a1 len c1] 26)).alloc (.cells #[.int .i64 k, .int .i64 n, .string s, .slice a2 len c2] 26) := ⟨_, rfl⟩
  have hA : Below w.heap.size w W := by rw [hW]; exact ((Below.refl _ _).alloc (Nat.le_refl _) _).alloc (by simp) _
  have hC1 := orderOf_same k n s a1 a2 len c1 c2 C w hok hcn
  have hC := orderOf_same k n s a1 a2 len c1 c2 C W (hok.later hA) hcn
  clear hok hcn
  rw [hW] at hC
  have HW : Hid (W = _) := hW
  clear hW
  go_enter Try.func8, Try.ntmps8
  go_wp2_with fail
  first
    | (refine hC1.mono ?_
       rintro e w1 ⟨rfl, hb⟩
       go_wp2_with fail
       go_ret
       exact ⟨rfl, hb⟩)
    | (refine hC.mono ?_
       rintro e w1 ⟨rfl, hb⟩
       rw [← HW.out] at hb
       go_wp2_with fail
       go_ret
       exact ⟨rfl, hA.trans (hb.mono hA.size)⟩)

theorem rd_nil : ∀ (d : Nat) (w : World) (a : Option Addr) (c : Nat), RdL d w (.slice a 0 c) []
  | 0, _, a, c => ⟨a, c, rfl⟩
  | d + 1, _, a, c => ⟨a, c, rfl, fun i t h => by simp at h⟩
theorem ok_nil : ∀ (d : Nat), OkL d []
  | 0 => trivial
  | d + 1 => fun t h => by cases h
/-- SameTerm at two terms without parts. -/
theorem sameTerm_leaf (k n : Int) (s : ByteArray) (a1 a2 : Option Addr) (c1 c2 : Nat) (w : World) (h : SZ k n s 0) :
    Calls Try.prog 8 #[.agg #[.int .i64 k, .int .i64 n, .string s, .slice a1 0 c1], .agg #[.int .i64 k, .int .i64 n, .string s, .slice a2 0 c2]] w fun e w' => e = .returned (.bool true) ∧ Below w.heap.size w w' :=
  sameTerm_root k n s a1 a2 0 c1 c2 1 w ⟨0, [], rd_nil 0 w a1 c1, rd_nil 0 w a2 c2, h, ok_nil 0, by rw [cntL_nil]⟩ (by omega)

end Go.Proofs.Ytegfbpidlopfoaa
