/- LessTerm and SameTerm at any two right terms. -/
import Derived.Test.YthjmbbpakidkdaaOd4
namespace Go.Proofs.Ythjmbbpakidkdaa
open Go.RowKit
set_option linter.unusedVariables false

theorem RootsOk.later {w w' : World} {k n : Int} {s : ByteArray} {la : Value} {k2 n2 : Int} {s2 : ByteArray} {lb : Value} {C : Nat} {LT EQ : Prop} (h : RootsOk w k n s la k2 n2 s2 lb C LT EQ) (hb : Below w.heap.size w w') : RootsOk w' k n s la k2 n2 s2 lb C LT EQ := by
  obtain ⟨d, ts, us, h1, h2, h3⟩ := h
  exact ⟨d, ts, us, h1.later hb, h2.later hb, h3⟩

theorem lessTerm_any (k n : Int) (s : ByteArray) (a1 : Option Addr) (len1 c1 : Nat) (k2 n2 : Int) (s2 : ByteArray) (a2 : Option Addr) (len2 c2 : Nat) (LT EQ : Prop) (C : Nat) (w : World) (hok : RootsOk w k n s (.slice a1 len1 c1) k2 n2 s2 (.slice a2 len2 c2) C LT EQ) (hc : C ≤ 300) :
    Calls Try.prog 30 #[.agg #[.int .i64 k, .int .i64 n, .string s, .slice a1 len1 c1], .agg #[.int .i64 k2, .int .i64 n2, .string s2, .slice a2 len2 c2]] w fun e w' => ∃ r : Bool, e = .returned (.bool r) ∧ Hid (r = true ↔ LT) ∧ Below w.heap.size w w' := by
  obtain ⟨W, hW⟩ : ∃ W, W = (w.alloc (.cells #[.int .i64 k, .int .i64 n, .string s, .slice a1 len1 c1] 26)).alloc (.cells #[.int .i64 k2, .int .i64 n2, .string s2, .slice a2 len2 c2] 26) := ⟨_, rfl⟩
  have hA : Below w.heap.size w W := by rw [hW]; exact ((Below.refl _ _).alloc (Nat.le_refl _) _).alloc (by simp) _
  have hC1 := orderOf_any k n s a1 len1 c1 k2 n2 s2 a2 len2 c2 LT EQ C w hok hc
  have hC := orderOf_any k n s a1 len1 c1 k2 n2 s2 a2 len2 c2 LT EQ C W (hok.later hA) hc
  clear hok hc
  rw [hW] at hC
  have HW : Hid (W = _) := hW
  clear hW
  go_enter Try.func30, Try.ntmps30
  go_wp2_with fail
  first
    | (refine hC1.mono ?_
       rintro e w1 ⟨r, rfl, hr, hb⟩
       go_wp2_with fail
       go_ret
       exact ⟨_, rfl, (by simpa using hr.out.1 : (_ = true ↔ LT)), hb⟩)
    | (refine hC.mono ?_
       rintro e w1 ⟨r, rfl, hr, hb⟩
       rw [← HW.out] at hb
       go_wp2_with fail
       go_ret
       exact ⟨_, rfl, (by simpa using hr.out.1 : (_ = true ↔ LT)), hA.trans (hb.mono hA.size)⟩)

theorem sameTerm_any (k n : Int) (s : ByteArray) (a1 : Option Addr) (len1 c1 : Nat) (k2 n2 : Int) (s2 : ByteArray) (a2 : Option Addr) (len2 c2 : Nat) (LT EQ : Prop) (C : Nat) (w : World) (hok : RootsOk w k n s (.slice a1 len1 c1) k2 n2 s2 (.slice a2 len2 c2) C LT EQ) (hc : C ≤ 300) :
    Calls Try.prog 24 #[.agg #[.int .i64 k, .int .i64 n, .string s, .slice a1 len1 c1], .agg #[.int .i64 k2, .int .i64 n2, .string s2, .slice a2 len2 c2]] w fun e w' => ∃ r : Bool, e = .returned (.bool r) ∧ Hid (r = true ↔ EQ) ∧ Below w.heap.size w w' := by
  obtain ⟨W, hW⟩ : ∃ W, W = (w.alloc (.cells #[.int .i64 k, .int .i64 n, .string s, .slice a1 len1 c1] 26)).alloc (.cells #[.int .i64 k2, .int .i64 n2, .string s2, .slice a2 len2 c2] 26) := ⟨_, rfl⟩
  have hA : Below w.heap.size w W := by rw [hW]; exact ((Below.refl _ _).alloc (Nat.le_refl _) _).alloc (by simp) _
  have hC1 := orderOf_any k n s a1 len1 c1 k2 n2 s2 a2 len2 c2 LT EQ C w hok hc
  have hC := orderOf_any k n s a1 len1 c1 k2 n2 s2 a2 len2 c2 LT EQ C W (hok.later hA) hc
  clear hok hc
  rw [hW] at hC
  have HW : Hid (W = _) := hW
  clear hW
  go_enter Try.func24, Try.ntmps24
  go_wp2_with fail
  first
    | (refine hC1.mono ?_
       rintro e w1 ⟨r, rfl, hr, hb⟩
       go_wp2_with fail
       go_ret
       exact ⟨_, rfl, (by simpa using hr.out.2 : (_ = true ↔ EQ)), hb⟩)
    | (refine hC.mono ?_
       rintro e w1 ⟨r, rfl, hr, hb⟩
       rw [← HW.out] at hb
       go_wp2_with fail
       go_ret
       exact ⟨_, rfl, (by simpa using hr.out.2 : (_ = true ↔ EQ)), hA.trans (hb.mono hA.size)⟩)

end Go.Proofs.Ythjmbbpakidkdaa
