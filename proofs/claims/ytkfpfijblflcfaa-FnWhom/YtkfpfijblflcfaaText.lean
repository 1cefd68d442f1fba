/- What reading a text comes to, in the program and in the model: its size, then its bytes. -/
import Derived.Test.YtkfpfijblflcfaaSpec
import Derived.Test.YtkfpfijblflcfaaEq
namespace Go.Proofs.Ytkfpfijblflcfaa
open Go.RowKit

def getText (zs : List Int) (p : Int) : List Int × Int × Bool :=
  if (getNum zs p).2.2 = true ∧ 0 ≤ (getNum zs p).1 ∧ (getNum zs p).1 ≤ (zs.length : Int) - (getNum zs p).2.1 then
    ((zs.drop (getNum zs p).2.1.toNat).take (getNum zs p).1.toNat, (getNum zs p).2.1 + (getNum zs p).1, true) else ([], 0, false)

theorem scan_next (zs : List Int) (a : Nat) : ∀ f k, (scan zs a f k).2.2 = true → 0 < (scan zs a f k).2.1 ∧ (scan zs a f k).2.1 ≤ zs.length := by
  intro f
  induction f with
  | zero => intro k h; simp [scan] at h
  | succ f ih =>
    intro k h
    rw [scan] at h ⊢
    split
    · rename_i h1
      rw [if_pos h1] at h
      split
      · rename_i h2
        rw [if_pos h2] at h
        exact ih (k + 1) h
      · rename_i h2
        rw [if_neg h2] at h
        split
        · rename_i h3
          rw [if_pos h3] at h
          cases h
        · show 0 < ((a + k + 1 : Nat) : Int) ∧ ((a + k + 1 : Nat) : Int) ≤ (zs.length : Int)
          omega
    · rename_i h1
      rw [if_neg h1] at h
      cases h

theorem dec_bd (c : Int) (h0 : 0 ≤ c) (h : c ≤ 2000000000000) : -1000000000000 ≤ dec c ∧ dec c ≤ 1000000000000 := by unfold dec; split <;> omega

theorem getNum_bd (zs : List Int) (p : Int) : ((getNum zs p).2.2 = true → 0 < (getNum zs p).2.1 ∧ (getNum zs p).2.1 ≤ zs.length) ∧ -1000000000000 ≤ (getNum zs p).1 ∧ (getNum zs p).1 ≤ 1000000000000 := by
  unfold getNum
  split
  · have hs := scan_next zs p.toNat 6 0
    have hb := scan_bd zs p.toNat 6 0 (by omega)
    unfold fin
    split
    · rename_i h
      exact ⟨fun _ => hs h.1, dec_bd _ hb.1 h.2⟩
    · simp
  · simp

/-- The three results of reading a text. -/
def threeT (r : List Int × Int × Bool) : Value := .tuple #[.string (strOfNums r.1), .int .i64 r.2.1, .bool r.2.2]

theorem ret3t {s : ByteArray} {b : Int} {c : Bool} {r : List Int × Int × Bool} (h : r = (r.1, b, c)) (hs : s = strOfNums r.1) : Ending.returned (.tuple #[.string s, .int .i64 b, .bool c]) = .returned (threeT r) := by
  rw [h, hs]; rfl

end Go.Proofs.Ytkfpfijblflcfaa
