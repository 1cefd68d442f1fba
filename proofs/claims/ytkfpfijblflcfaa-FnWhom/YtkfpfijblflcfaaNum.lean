/- Plain facts, without the program: how a number is read off groups of seven bits, and what the two readers' arithmetic comes to. -/
import Derived.Laws.Bits128
import Derived.WalkKit
namespace Go.Proofs.Ytkfpfijblflcfaa

/-- The sum of the first k groups from place a on. -/
def grp (zs : List Int) (a : Nat) : Nat → Int
  | 0 => 0
  | k + 1 => grp zs a k + zs[a + k]?.getD 0 % 128 * 2 ^ (7 * k)

/-- What reading comes to with f groups more that may be read, k groups behind: the code, the place behind, whether it is there. -/
def scan (zs : List Int) (a : Nat) : Nat → Nat → Int × Int × Bool
  | 0, _ => (0, 0, false)
  | f + 1, k => if a + k < zs.length then
      (if 127 < zs[a + k]?.getD 0 then scan zs a f (k + 1)
       else if zs[a + k]?.getD 0 = 0 ∧ 0 < k then (0, 0, false) else (grp zs a (k + 1), ((a + k + 1 : Nat) : Int), true))
      else (0, 0, false)

/-- The number of a code. -/
def dec (c : Int) : Int := if c % 2 = 1 then -(c / 2) - 1 else c / 2

def fin (r : Int × Int × Bool) : Int × Int × Bool := if r.2.2 = true ∧ r.1 ≤ 2000000000000 then (dec r.1, r.2.1, true) else (0, 0, false)

/-- What GetNum answers at a list of bytes and a place. -/
def getNum (zs : List Int) (p : Int) : Int × Int × Bool := if 0 ≤ p ∧ p < zs.length then fin (scan zs p.toNat 6 0) else (0, 0, false)

theorem pow_succ7 (k : Nat) : (2 : Int) ^ (7 * (k + 1)) = 2 ^ (7 * k) * 128 := by
  rw [show 7 * (k + 1) = 7 * k + 7 from by omega, Int.pow_add]; rfl

theorem grp_bd (zs : List Int) (a k : Nat) : 0 ≤ grp zs a k ∧ grp zs a k < 2 ^ (7 * k) := by
  induction k with
  | zero => simp [grp]
  | succ k ih =>
    have h1 : 0 ≤ zs[a + k]?.getD 0 % 128 := Int.emod_nonneg _ (by decide)
    have h2 : zs[a + k]?.getD 0 % 128 ≤ 127 := by have := Int.emod_lt_of_pos (zs[a + k]?.getD 0) (show (0 : Int) < 128 by decide); omega
    have hp : (0 : Int) < 2 ^ (7 * k) := Int.pow_pos (by decide)
    rw [pow_succ7]
    show 0 ≤ grp zs a k + _ ∧ grp zs a k + _ < _
    generalize zs[a + k]?.getD 0 % 128 = x at *
    generalize (2 : Int) ^ (7 * k) = q at *
    have h3 : 0 ≤ x * q := Int.mul_nonneg h1 (by omega)
    have h4 : x * q ≤ 127 * q := Int.mul_le_mul_of_nonneg_right h2 (by omega)
    omega

theorem pow_le6 (k : Nat) (h : k ≤ 6) : (2 : Int) ^ (7 * k) ≤ 4398046511104 := by
  have : ∀ j, j ≤ 6 → (2 : Int) ^ (7 * j) ≤ 4398046511104 := by decide
  exact this k h

theorem wraps_i64 (n : Int) (h₀ : 0 ≤ n) (h₁ : n < 2 ^ 62) : IntKind.i64.wrap n = n := by rw [IntKind.wrap_i64]; omega

/-- Another group joins those behind it by 'or' as by a sum. -/
theorem or_grp (m x : Int) (k : Nat) (hk : k ≤ 5) (hm0 : 0 ≤ m) (hm : m < 2 ^ (7 * k)) (hx0 : 0 ≤ x) (hx : x ≤ 127) : bits .or .i64 m (x * 2 ^ (7 * k)) = m + x * 2 ^ (7 * k) := by
  have hp := pow_le6 k (by omega)
  have h5 : (2 : Int) ^ (7 * k) ≤ 34359738368 := by
    have : ∀ j, j ≤ 5 → (2 : Int) ^ (7 * j) ≤ 34359738368 := by decide
    exact this k hk
  have hq : (0 : Int) < 2 ^ (7 * k) := Int.pow_pos (by decide)
  have hc : bits .or .i64 m (x * 2 ^ (7 * k)) = bits .or .i64 (x * 2 ^ (7 * k)) m := by simp only [bits, BitVec.or_comm]
  have hmod : x * 2 ^ (7 * k) % 2 ^ (7 * k) = 0 := Int.mul_emod_left _ _
  have hle : x * 2 ^ (7 * k) ≤ 127 * 2 ^ (7 * k) := Int.mul_le_mul_of_nonneg_right hx (by omega)
  have h0 : 0 ≤ x * 2 ^ (7 * k) := Int.mul_nonneg hx0 (by omega)
  rw [hc, bits_join .i64 62 (by decide) wraps_i64 (7 * k) _ m h0 hmod (by omega) hm0 hm (by omega)]
  omega

theorem and1 (n : Int) : bits .and .i64 n 1 = n % 2 := by
  have h1 : (BitVec.ofInt 64 1).toNat = 2 ^ 1 - 1 := by decide
  have key : (BitVec.ofInt 64 n &&& BitVec.ofInt 64 1).toNat = (n % ((2 ^ 64 : Nat) : Int)).toNat % 2 ^ 1 := by
    rw [BitVec.toNat_and, BitVec.toNat_ofInt, h1, Nat.and_two_pow_sub_one_eq_mod]
  show IntKind.i64.wrap ((BitVec.ofInt 64 n &&& BitVec.ofInt 64 1).toNat : Nat) = n % 2
  rw [key, IntKind.wrap_i64]
  omega

theorem grp_step (zs : List Int) (a k : Nat) (x : Int) (hk : k < 6) (hx : x = zs[a + k]?.getD 0) :
    RowKit.wrap64 (grp zs a k + RowKit.wrap64 (x % 128 * 2 ^ (7 * k))) = grp zs a (k + 1) := by
  have hg := grp_bd zs a k
  have hs := grp_bd zs a (k + 1)
  have hp := pow_le6 (k + 1) (by omega)
  have e : grp zs a (k + 1) = grp zs a k + x % 128 * 2 ^ (7 * k) := by rw [hx]; rfl
  have h1 : 0 ≤ x % 128 := Int.emod_nonneg _ (by decide)
  have hq : (0 : Int) < 2 ^ (7 * k) := Int.pow_pos (by decide)
  have h3 : 0 ≤ x % 128 * 2 ^ (7 * k) := Int.mul_nonneg h1 (by omega)
  rw [IntWalk.wrap64_in (x % 128 * 2 ^ (7 * k)) ⟨by omega, by omega⟩, IntWalk.wrap64_in _ ⟨by omega, by omega⟩, e]

theorem or_step (zs : List Int) (a k : Nat) (x : Int) (hk : k < 6) (hx : x = zs[a + k]?.getD 0) :
    bits .or .i64 (grp zs a k) (RowKit.wrap64 (x % 128 * 2 ^ (7 * k))) = grp zs a (k + 1) := by
  have hg := grp_bd zs a k
  have hs := grp_bd zs a (k + 1)
  have hp := pow_le6 (k + 1) (by omega)
  have e : grp zs a (k + 1) = grp zs a k + x % 128 * 2 ^ (7 * k) := by rw [hx]; rfl
  have h1 : 0 ≤ x % 128 := Int.emod_nonneg _ (by decide)
  have h2 : x % 128 ≤ 127 := by have := Int.emod_lt_of_pos x (show (0 : Int) < 128 by decide); omega
  have hq : (0 : Int) < 2 ^ (7 * k) := Int.pow_pos (by decide)
  have h3 : 0 ≤ x % 128 * 2 ^ (7 * k) := Int.mul_nonneg h1 (by omega)
  rw [IntWalk.wrap64_in (x % 128 * 2 ^ (7 * k)) ⟨by omega, by omega⟩, or_grp _ _ k (by omega) hg.1 hg.2 h1 h2, e]

theorem fin_no {c nx : Int} (h : 2000000000000 < c) : fin (c, nx, true) = (0, 0, false) := by unfold fin; rw [if_neg (by simp; omega)]
theorem fin_odd {c nx : Int} (h : c ≤ 2000000000000) (ho : c % 2 = 1) : fin (c, nx, true) = (-(c / 2) - 1, nx, true) := by unfold fin; rw [if_pos ⟨rfl, h⟩, dec, if_pos ho]
theorem fin_even {c nx : Int} (h : c ≤ 2000000000000) (ho : ¬ c % 2 = 1) : fin (c, nx, true) = (c / 2, nx, true) := by unfold fin; rw [if_pos ⟨rfl, h⟩, dec, if_neg ho]

theorem scan_go (zs : List Int) (a k : Nat) (x : Int) (hk : k < 6) (hl : a + k < zs.length) (hx : x = zs[a + k]?.getD 0) (h : 127 < x) : scan zs a (6 - k) k = scan zs a (6 - (k + 1)) (k + 1) := by
  rw [show 6 - k = (6 - (k + 1)) + 1 from by omega]
  subst hx
  simp only [scan, if_pos hl, if_pos h]
theorem scan_zero (zs : List Int) (a k : Nat) (x : Int) (hk : k < 6) (hl : a + k < zs.length) (hx : x = zs[a + k]?.getD 0) (h : x = 0) (h0 : 0 < k) : scan zs a (6 - k) k = (0, 0, false) := by
  rw [show 6 - k = (6 - (k + 1)) + 1 from by omega]
  subst hx
  rw [scan, if_pos hl, if_neg (by omega), if_pos ⟨h, h0⟩]
theorem scan_yes (zs : List Int) (a k : Nat) (x : Int) (hk : k < 6) (hl : a + k < zs.length) (hx : x = zs[a + k]?.getD 0) (h : x ≤ 127) (h0 : ¬ (x = 0 ∧ 0 < k)) : scan zs a (6 - k) k = (grp zs a (k + 1), ((a + k + 1 : Nat) : Int), true) := by
  rw [show 6 - k = (6 - (k + 1)) + 1 from by omega]
  subst hx
  rw [scan, if_pos hl, if_neg (by omega), if_neg h0]
theorem scan_end (zs : List Int) (a k : Nat) (hk : k ≤ 6) (h : k = 6 ∨ zs.length ≤ a + k) : scan zs a (6 - k) k = (0, 0, false) := by
  by_cases h6 : k = 6
  · subst h6; rfl
  · rw [show 6 - k = (6 - (k + 1)) + 1 from by omega, scan, if_neg (by omega)]
/-- What reading comes to: a code within its bounds and a place, or nothing. -/
theorem scan_bd (zs : List Int) (a : Nat) : ∀ f k, f + k ≤ 6 → 0 ≤ (scan zs a f k).1 ∧ (scan zs a f k).1 ≤ 4398046511104 ∧ ((scan zs a f k).2.2 = false → (scan zs a f k) = (0, 0, false)) := by
  intro f
  induction f with
  | zero => intro k _; simp [scan]
  | succ f ih =>
    intro k hk
    rw [scan]
    split
    · split
      · exact ih (k + 1) (by omega)
      · split
        · simp
        · have hs := grp_bd zs a (k + 1)
          have hp := pow_le6 (k + 1) (by omega)
          exact ⟨hs.1, by show grp zs a (k + 1) ≤ _; omega, fun h => by cases h⟩
    · simp

end Go.Proofs.Ytkfpfijblflcfaa
