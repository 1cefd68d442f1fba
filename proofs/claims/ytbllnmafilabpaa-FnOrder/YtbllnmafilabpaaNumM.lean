/- Plain facts, without the program: how a number is read off groups of seven bits, and what the two readers' arithmetic comes to. -/
import Derived.Laws.Bits128
import Derived.WalkKit
import Derived.Test.YtbllnmafilabpaaRows
import Derived.WalkSpells
import Derived.WalkLawsBesides
import Derived.BigQuiet
import Derived.Deep.QuietTactic
namespace Go.Proofs.Ytbllnmafilabpaa

/-- The sum of the first k groups from place a on. -/
def grp (zs : List Int) (a : Nat) : Nat → Int
  | 0 => 0
  | k + 1 => grp zs a k + zs[a + k]?.getD 0 % 128 * 2 ^ (7 * k)

/-- What reading comes to with f groups more that may be read, k groups behind: the code, the place behind, whether it is there. -/
def scan (zs : List Int) (a : Nat) : Nat → Nat → Int × Int × Bool
  | 0, _ => (0, 0, false)
  | f + 1, k => if a + k < zs.length then
      (if 127 < zs[a + k]?.getD 0 then scan zs a f (k + 1)
       else if zs[a + k]?.getD 0 = 0 ∧ 0 < k then (0, 0, false) else (grp zs a (k + 1), ((a + k + 1 : Nat) : Int), true))
      else (0, 0, false)

/-- The number of a code. -/
def dec (c : Int) : Int := if c % 2 = 1 then -(c / 2) - 1 else c / 2

def fin (r : Int × Int × Bool) : Int × Int × Bool := if r.2.2 = true ∧ r.1 ≤ 2000000000000 then (dec r.1, r.2.1, true) else (0, 0, false)

/-- What GetNum answers at a list of bytes and a place. -/
def getNum (zs : List Int) (p : Int) : Int × Int × Bool := if 0 ≤ p ∧ p < zs.length then fin (scan zs p.toNat 6 0) else (0, 0, false)

theorem pow_succ7 (k : Nat) : (2 : Int) ^ (7 * (k + 1)) = 2 ^ (7 * k) * 128 := by
  rw [show 7 * (k + 1) = 7 * k + 7 from by omega, Int.pow_add]; rfl

theorem grp_bd (zs : List Int) (a k : Nat) : 0 ≤ grp zs a k ∧ grp zs a k < 2 ^ (7 * k) := by
  induction k with
  | zero => simp [grp]
  | succ k ih =>
    have h1 : 0 ≤ zs[a + k]?.getD 0 % 128 := Int.emod_nonneg _ (by decide)
    have h2 : zs[a + k]?.getD 0 % 128 ≤ 127 := by have := Int.emod_lt_of_pos (zs[a + k]?.getD 0) (show (0 : Int) < 128 by decide); omega
    have hp : (0 : Int) < 2 ^ (7 * k) := Int.pow_pos (by decide)
    rw [pow_succ7]
    show 0 ≤ grp zs a k + _ ∧ grp zs a k + _ < _
    generalize zs[a + k]?.getD 0 % 128 = x at *
    generalize (2 : Int) ^ (7 * k) = q at *
    have h3 : 0 ≤ x * q := Int.mul_nonneg h1 (by omega)
    have h4 : x * q ≤ 127 * q := Int.mul_le_mul_of_nonneg_right h2 (by omega)
    omega

theorem pow_le6 (k : Nat) (h : k ≤ 6) : (2 : Int) ^ (7 * k) ≤ 4398046511104 := by
  have : ∀ j, j ≤ 6 → (2 : Int) ^ (7 * j) ≤ 4398046511104 := by decide
  exact this k h

theorem wraps_i64 (n : Int) (h₀ : 0 ≤ n) (h₁ : n < 2 ^ 62) : IntKind.i64.wrap n = n := by rw [IntKind.wrap_i64]; omega

/-- Another group joins those behind it by 'or' as by a sum. -/
theorem or_grp (m x : Int) (k : Nat) (hk : k ≤ 5) (hm0 : 0 ≤ m) (hm : m < 2 ^ (7 * k)) (hx0 : 0 ≤ x) (hx : x ≤ 127) : bits .or .i64 m (x * 2 ^ (7 * k)) = m + x * 2 ^ (7 * k) := by
  have hp := pow_le6 k (by omega)
  have h5 : (2 : Int) ^ (7 * k) ≤ 34359738368 := by
    have : ∀ j, j ≤ 5 → (2 : Int) ^ (7 * j) ≤ 34359738368 := by decide
    exact this k hk
  have hq : (0 : Int) < 2 ^ (7 * k) := Int.pow_pos (by decide)
  have hc : bits .or .i64 m (x * 2 ^ (7 * k)) = bits .or .i64 (x * 2 ^ (7 * k)) m := by simp only [bits, BitVec.or_comm]
  have hmod : x * 2 ^ (7 * k) % 2 ^ (7 * k) = 0 := Int.mul_emod_left _ _
  have hle : x * 2 ^ (7 * k) ≤ 127 * 2 ^ (7 * k) := Int.mul_le_mul_of_nonneg_right hx (by omega)
  have h0 : 0 ≤ x * 2 ^ (7 * k) := Int.mul_nonneg hx0 (by omega)
  rw [hc, bits_join .i64 62 (by decide) wraps_i64 (7 * k) _ m h0 hmod (by omega) hm0 hm (by omega)]
  omega

theorem and1 (n : Int) : bits .and .i64 n 1 = n % 2 := by
  have h1 : (BitVec.ofInt 64 1).toNat = 2 ^ 1 - 1 := by decide
  have key : (BitVec.ofInt 64 n &&& BitVec.ofInt 64 1).toNat = (n % ((2 ^ 64 : Nat) : Int)).toNat % 2 ^ 1 := by
    rw [BitVec.toNat_and, BitVec.toNat_ofInt, h1, Nat.and_two_pow_sub_one_eq_mod]
  show IntKind.i64.wrap ((BitVec.ofInt 64 n &&& BitVec.ofInt 64 1).toNat : Nat) = n % 2
  rw [key, IntKind.wrap_i64]
  omega

theorem grp_step (zs : List Int) (a k : Nat) (x : Int) (hk : k < 6) (hx : x = zs[a + k]?.getD 0) :
    RowKit.wrap64 (grp zs a k + RowKit.wrap64 (x % 128 * 2 ^ (7 * k))) = grp zs a (k + 1) := by
  have hg := grp_bd zs a k
  have hs := grp_bd zs a (k + 1)
  have hp := pow_le6 (k + 1) (by omega)
  have e : grp zs a (k + 1) = grp zs a k + x % 128 * 2 ^ (7 * k) := by rw [hx]; rfl
  have h1 : 0 ≤ x % 128 := Int.emod_nonneg _ (by decide)
  have hq : (0 : Int) < 2 ^ (7 * k) := Int.pow_pos (by decide)
  have h3 : 0 ≤ x % 128 * 2 ^ (7 * k) := Int.mul_nonneg h1 (by omega)
  rw [IntWalk.wrap64_in (x % 128 * 2 ^ (7 * k)) ⟨by omega, by omega⟩, IntWalk.wrap64_in _ ⟨by omega, by omega⟩, e]

theorem or_step (zs : List Int) (a k : Nat) (x : Int) (hk : k < 6) (hx : x = zs[a + k]?.getD 0) :
    bits .or .i64 (grp zs a k) (RowKit.wrap64 (x % 128 * 2 ^ (7 * k))) = grp zs a (k + 1) := by
  have hg := grp_bd zs a k
  have hs := grp_bd zs a (k + 1)
  have hp := pow_le6 (k + 1) (by omega)
  have e : grp zs a (k + 1) = grp zs a k + x % 128 * 2 ^ (7 * k) := by rw [hx]; rfl
  have h1 : 0 ≤ x % 128 := Int.emod_nonneg _ (by decide)
  have h2 : x % 128 ≤ 127 := by have := Int.emod_lt_of_pos x (show (0 : Int) < 128 by decide); omega
  have hq : (0 : Int) < 2 ^ (7 * k) := Int.pow_pos (by decide)
  have h3 : 0 ≤ x % 128 * 2 ^ (7 * k) := Int.mul_nonneg h1 (by omega)
  rw [IntWalk.wrap64_in (x % 128 * 2 ^ (7 * k)) ⟨by omega, by omega⟩, or_grp _ _ k (by omega) hg.1 hg.2 h1 h2, e]

theorem fin_no {c nx : Int} (h : 2000000000000 < c) : fin (c, nx, true) = (0, 0, false) := by unfold fin; rw [if_neg (by simp; omega)]
theorem fin_odd {c nx : Int} (h : c ≤ 2000000000000) (ho : c % 2 = 1) : fin (c, nx, true) = (-(c / 2) - 1, nx, true) := by unfold fin; rw [if_pos ⟨rfl, h⟩, dec, if_pos ho]
theorem fin_even {c nx : Int} (h : c ≤ 2000000000000) (ho : ¬ c % 2 = 1) : fin (c, nx, true) = (c / 2, nx, true) := by unfold fin; rw [if_pos ⟨rfl, h⟩, dec, if_neg ho]

theorem scan_go (zs : List Int) (a k : Nat) (x : Int) (hk : k < 6) (hl : a + k < zs.length) (hx : x = zs[a + k]?.getD 0) (h : 127 < x) : scan zs a (6 - k) k = scan zs a (6 - (k + 1)) (k + 1) := by
  rw [show 6 - k = (6 - (k + 1)) + 1 from by omega]
  subst hx
  simp only [scan, if_pos hl, if_pos h]
theorem scan_zero (zs : List Int) (a k : Nat) (x : Int) (hk : k < 6) (hl : a + k < zs.length) (hx : x = zs[a + k]?.getD 0) (h : x = 0) (h0 : 0 < k) : scan zs a (6 - k) k = (0, 0, false) := by
  rw [show 6 - k = (6 - (k + 1)) + 1 from by omega]
  subst hx
  rw [scan, if_pos hl, if_neg (by omega), if_pos ⟨h, h0⟩]
theorem scan_yes (zs : List Int) (a k : Nat) (x : Int) (hk : k < 6) (hl : a + k < zs.length) (hx : x = zs[a + k]?.getD 0) (h : x ≤ 127) (h0 : ¬ (x = 0 ∧ 0 < k)) : scan zs a (6 - k) k = (grp zs a (k + 1), ((a + k + 1 : Nat) : Int), true) := by
  rw [show 6 - k = (6 - (k + 1)) + 1 from by omega]
  subst hx
  rw [scan, if_pos hl, if_neg (by omega), if_neg h0]
theorem scan_end (zs : List Int) (a k : Nat) (hk : k ≤ 6) (h : k = 6 ∨ zs.length ≤ a + k) : scan zs a (6 - k) k = (0, 0, false) := by
  by_cases h6 : k = 6
  · subst h6; rfl
  · rw [show 6 - k = (6 - (k + 1)) + 1 from by omega, scan, if_neg (by omega)]
/-- What reading comes to: a code within its bounds and a place, or nothing. -/
theorem scan_bd (zs : List Int) (a : Nat) : ∀ f k, f + k ≤ 6 → 0 ≤ (scan zs a f k).1 ∧ (scan zs a f k).1 ≤ 4398046511104 ∧ ((scan zs a f k).2.2 = false → (scan zs a f k) = (0, 0, false)) := by
  intro f
  induction f with
  | zero => intro k _; simp [scan]
  | succ f ih =>
    intro k hk
    rw [scan]
    split
    · split
      · exact ih (k + 1) (by omega)
      · split
        · simp
        · have hs := grp_bd zs a (k + 1)
          have hp := pow_le6 (k + 1) (by omega)
          exact ⟨hs.1, by show grp zs a (k + 1) ≤ _; omega, fun h => by cases h⟩
    · simp

end Go.Proofs.Ytbllnmafilabpaa

/- What the law's own helpers do to memory: a copy of bytes in new memory, and whether two rows of bytes are alike. -/
namespace Go.Proofs.Ytbllnmafilabpaa
open Go.RowKit

/-- WHAT THE WALK IS TOLD OF A SLICE OF INTEGERS THAT CAME IN: it is nil; or it leads to a row of 'cap' cells, the numbers 'zs'. -/
def IsRow (k : IntKind) (w : World) (a : Option Addr) (len cap : Nat) (zs : List Int) : Prop :=
  (a = none ∧ len = 0 ∧ cap = 0 ∧ zs = []) ∨
  ∃ x, a = some x ∧ len ≤ cap ∧ cap ≤ maxLen ∧ zs.length = cap ∧ (∀ i, i < zs.length → w.cell? (x.add i) = some (.int k (zs.getD i 0))) ∧ ∀ n ∈ zs, (Lit.int k n).wf = true

theorem Try.info5 : (Try.prog.info? 5).map (fun i => (i.zero, i.size, i.bytes)) = some (some (.int .u8 0), 1, 1) := by kernel_rfl

/-- The cells of a copy of which k bytes are done. -/
def half (zs : List Int) (len k : Nat) : List Value := (zs.take k).map (Value.int .u8) ++ List.replicate (len - k) (.int .u8 0)

theorem half_zero (zs : List Int) (len : Nat) : half zs len 0 = List.replicate len (.int .u8 0) := by simp [half]
theorem half_full (zs : List Int) (len : Nat) : half zs len len = (zs.take len).map (Value.int .u8) := by simp [half]
theorem half_step (zs : List Int) (len k : Nat) (hk : k < len) (hz : len ≤ zs.length) : (half zs len k).set k (.int .u8 (zs[k]?.getD 0)) = half zs len (k + 1) := by
  have h1 : k < zs.length := by omega
  have e1 : len - k = (len - (k + 1)) + 1 := by omega
  unfold half
  rw [List.set_append_right _ _ (by simp; omega), List.length_map, List.length_take, Nat.min_eq_left (by omega), Nat.sub_self, e1, List.replicate_succ, List.set_cons_zero,
    List.take_succ_eq_append_getElem h1, List.map_append]
  simp [h1]
theorem half_len (zs : List Int) (len k : Nat) (hk : k ≤ len) (hz : len ≤ zs.length) : (half zs len k).length = len := by
  simp [half]; omega

theorem wf_u8 {n : Int} (h : (Lit.int .u8 n).wf = true) : 0 ≤ n ∧ n ≤ 255 := by
  have h1 : IntKind.u8.min = 0 := by decide
  have h2 : IntKind.u8.max = 255 := by decide
  simpa [Lit.wf, h1, h2] using h

end Go.Proofs.Ytbllnmafilabpaa

/- What the program's reading of a number comes to: its groups, its code, its number. -/
namespace Go.Proofs.Ytbllnmafilabpaa
open Go.RowKit

theorem ret3 {a b a' b' : Int} {c c' : Bool} (h1 : a = a') (h2 : b = b') (h3 : c = c') : Ending.returned (.tuple #[.int .i64 a, .int .i64 b, .bool c]) = .returned (.tuple #[.int .i64 a', .int .i64 b', .bool c']) := by rw [h1, h2, h3]

set_option maxHeartbeats 400000 in
theorem readGroups_in (b off n cap a : Nat) (zs : List Int) (w : World) (hz : zs.length = n) (hm : n ≤ 4611686018427387904) (ha : a < n)
    (hc : ∀ i, i < n → w.cell? ⟨b, off + i, none⟩ = some (.int .u8 (zs.getD i 0))) (hr : ∀ j : Nat, 0 ≤ zs[j]?.getD 0 ∧ zs[j]?.getD 0 ≤ 255) :
    Calls Try.prog 66 #[.slice (some ⟨b, off, none⟩) n cap, .int .i64 a] w fun e w' =>
      e = .returned (.tuple #[.int .i64 (scan zs a 6 0).1, .int .i64 (scan zs a 6 0).2.1, .bool (scan zs a 6 0).2.2]) ∧ w' = w := by
  have hd : decide ((n : Int) ≤ (a : Int)) = false := by simp; omega
  have hd0 : decide ((a : Int) < 0) = false := by simp
  go_enter Try.func66, Try.ntmps66
  go_wp2
  all_goals
    go_loop [7, 9] (fun c i => ∃ k : Nat, k ≤ 6 ∧ a + k ≤ n ∧ i = .int .i64 ((a + k : Nat) : Int) ∧ c = .int .i64 (grp zs a k) ∧ Hid (scan zs a 6 0 = scan zs a (6 - k) k)) (fun _ i => n - (intOf i).toNat)
    case atStart => exact ⟨0, by omega, by omega, rfl, rfl, rfl⟩
    case round =>
      obtain ⟨k, hk, hkn, rfl, rfl, HD⟩ := hrel
      have hg := grp_bd zs a k
      have hp := pow_le6 k hk
      obtain ⟨x, hx⟩ : ∃ x, x = zs[a + k]?.getD 0 := ⟨_, rfl⟩
      have hrk := hr (a + k)
      rw [← hx] at hrk
      obtain ⟨hx0, hx1⟩ := hrk
      by_cases hlt : a + k < n ∧ k < 6
      · obtain ⟨hl1, hl2⟩ := hlt
        have hcell : w.cell? ⟨b, off + (a + k), none⟩ = some (.int .u8 x) := by have := hc _ hl1; rw [hx]; simpa using this
        have HX : Hid (x = zs[a + k]?.getD 0) := hx
        clear hc hr hx
        go_wp2
        · have hb : 127 < x := by assumption
          go_round
          case rel => exact ⟨k + 1, by omega, by omega, by go_num, by rw [grp_step zs a k x hl2 HX.out], HD.out.trans (scan_go zs a k x hl2 (by omega) HX.out hb)⟩
          case measure => simp [intOf]; omega
        · have hb : x ≤ 127 := by assumption
          have h0 : x % 128 = 0 := by assumption
          have hk0 : (a : Int) < ↑a + ↑k := by assumption
          have hY := HD.out.trans (scan_zero zs a k x hl2 (by omega) HX.out (by omega) (by omega))
          go_ret3
          exact ⟨ret3 (by rw [hY]) (by rw [hY]) (by rw [hY]), rfl⟩
        · have hb : x ≤ 127 := by assumption
          have h0 : x % 128 = 0 := by assumption
          have hk0 : (a : Int) + ↑k ≤ ↑a := by assumption
          have hY := HD.out.trans (scan_yes zs a k x hl2 (by omega) HX.out (by omega) (by omega))
          have hS := grp_step zs a k x hl2 HX.out
          rw [h0, Int.zero_mul] at hS
          go_ret3
          exact ⟨ret3 (by rw [hY]; exact hS) (by rw [hY]; rfl) (by rw [hY]), rfl⟩
        · have hb : x ≤ 127 := by assumption
          have h0 : ¬ x % 128 = 0 := by assumption
          have hY := HD.out.trans (scan_yes zs a k x hl2 (by omega) HX.out (by omega) (by omega))
          have hS := grp_step zs a k x hl2 HX.out
          go_ret3
          exact ⟨ret3 (by rw [hY]; exact hS) (by rw [hY]; rfl) (by rw [hY]), rfl⟩
      · clear hx hc hr
        go_wp2
        have hY := HD.out.trans (scan_end zs a k hk (by omega))
        go_ret3
        exact ⟨ret3 (by rw [hY]) (by rw [hY]) (by rw [hY]), rfl⟩

set_option maxHeartbeats 400000 in
theorem readGroups_out (v : Option Addr) (n cap : Nat) (p : Int) (w : World) (_hm : n ≤ 4611686018427387904) (h : p < 0 ∨ (n : Int) ≤ p) :
    Calls Try.prog 66 #[.slice v n cap, .int .i64 p] w fun e w' => e = .returned (.tuple #[.int .i64 0, .int .i64 0, .bool false]) ∧ w' = w := by
  by_cases h0 : p < 0
  · go_enter Try.func66, Try.ntmps66
    go_wp2
    go_ret3
    exact ⟨rfl, rfl⟩
  · have h1 : (n : Int) ≤ p := by omega
    go_enter Try.func66, Try.ntmps66
    go_wp2
    go_ret3
    exact ⟨rfl, rfl⟩

theorem ret1 {a b : Int} (h : a = b) : Ending.returned (.int .i64 a) = .returned (.int .i64 b) := by rw [h]

theorem coded_odd (c : Int) (h0 : 0 ≤ c) (h1 : c ≤ 4398046511104) (h : c % 2 = 1) : wrap64 (-(c + 1).tdiv 2) = dec c := by
  have e : -(c + 1).tdiv 2 = dec c := by
    unfold dec
    rw [if_pos h, Int.tdiv_eq_ediv_of_nonneg (by omega)]
    omega
  rw [e, IntWalk.wrap64_in _ (by unfold dec; rw [if_pos h]; omega)]

set_option maxHeartbeats 400000 in
theorem codedNum_any (c : Int) (w : World) (h0 : 0 ≤ c) (h1 : c ≤ 4398046511104) :
    Calls Try.prog 67 #[.int .i64 c] w fun e w' => e = .returned (.int .i64 (dec c)) ∧ w' = w := by
  by_cases h : c % 2 = 1
  · have hd : Hid (wrap64 (-(c + 1).tdiv 2) = dec c) := coded_odd c h0 h1 h
    have hb : (c % 2 == 1) = true := by simp [h]
    go_enter Try.func67, Try.ntmps67
    go_wp2
    go_ret
    exact ⟨ret1 hd.out, rfl⟩
  · have hb : (c % 2 == 1) = false := by simp [h]
    have hd : Hid (c / 2 = dec c) := by unfold dec; rw [if_neg h]; exact rfl
    go_enter Try.func67, Try.ntmps67
    go_wp2
    go_ret
    exact ⟨ret1 hd.out, rfl⟩

/-- The three results of a reading, as the call hands them back. -/
def three (r : Int × Int × Bool) : Value := .tuple #[.int .i64 r.1, .int .i64 r.2.1, .bool r.2.2]

theorem ret3' {a b : Int} {c : Bool} {r : Int × Int × Bool} (h : r = (a, b, c)) : Ending.returned (.tuple #[.int .i64 a, .int .i64 b, .bool c]) = .returned (three r) := by subst h; rfl

set_option maxHeartbeats 400000 in
theorem implGetNum_any (b off n cap : Nat) (p : Int) (zs : List Int) (w : World) (hz : zs.length = n) (hm : n ≤ 4611686018427387904)
    (hc : ∀ i, i < n → w.cell? ⟨b, off + i, none⟩ = some (.int .u8 (zs.getD i 0))) (hr : ∀ j : Nat, 0 ≤ zs[j]?.getD 0 ∧ zs[j]?.getD 0 ≤ 255) :
    Calls Try.prog 61 #[.slice (some ⟨b, off, none⟩) n cap, .int .i64 p] w fun e w' => e = .returned (three (getNum zs p)) ∧ w' = w := by
  by_cases hp : 0 ≤ p ∧ p < n
  · obtain ⟨a, rfl⟩ := Int.eq_ofNat_of_zero_le hp.1
    have hb := scan_bd zs a 6 0 (by omega)
    have HG : Hid (getNum zs a = fin (scan zs a 6 0)) := by unfold getNum; rw [if_pos (by omega)]; exact rfl
    have hC := readGroups_in b off n cap a zs w hz hm (by omega) hc hr
    generalize scan zs a 6 0 = r at *
    obtain ⟨c, nx, ok⟩ := r
    obtain ⟨hb0, hb1, hb2⟩ := hb
    simp only at hb0 hb1 hb2 hC
    clear hc hr
    by_cases hok : ok = true ∧ c ≤ 2000000000000
    · obtain ⟨rfl, hle⟩ := hok
      have HF : Hid (getNum zs a = (dec c, nx, true)) := by have := HG.out; rw [fin, if_pos ⟨rfl, hle⟩] at this; exact this
      clear HG hb2
      go_enter Try.func61, Try.ntmps61
      go_wp2_with fail
      refine hC.mono ?_
      clear hC
      rintro e w' ⟨rfl, rfl⟩
      go_wp2_with (go_at_call 67; refine (codedNum_any _ _ (by omega) (by omega)).mono ?_; rintro e w' ⟨rfl, rfl⟩)
      go_ret3
      exact ⟨ret3' HF.out, rfl⟩
    · have HF : Hid (getNum zs a = (0, 0, false)) := by have := HG.out; rw [fin, if_neg hok] at this; exact this
      clear HG hb2
      cases ok with
      | false =>
        go_enter Try.func61, Try.ntmps61
        go_wp2_with fail
        refine hC.mono ?_
        clear hC
        rintro e w' ⟨rfl, rfl⟩
        go_wp2
        go_ret3
        exact ⟨ret3' HF.out, rfl⟩
      | true =>
        have hgt : 2000000000000 < c := by simp at hok; omega
        go_enter Try.func61, Try.ntmps61
        go_wp2_with fail
        refine hC.mono ?_
        clear hC
        rintro e w' ⟨rfl, rfl⟩
        go_wp2
        go_ret3
        exact ⟨ret3' HF.out, rfl⟩
  · have HF : Hid (getNum zs p = (0, 0, false)) := by unfold getNum; rw [if_neg (by omega)]; exact rfl
    have hC := readGroups_out (some ⟨b, off, none⟩) n cap p w hm (by omega)
    clear hc hr
    go_enter Try.func61, Try.ntmps61
    go_wp2_with fail
    refine hC.mono ?_
    clear hC
    rintro e w' ⟨rfl, rfl⟩
    go_wp2
    go_ret3
    exact ⟨ret3' HF.out, rfl⟩

end Go.Proofs.Ytbllnmafilabpaa

/- What the model's reading of a number comes to: the same as the program's. -/
namespace Go.Proofs.Ytbllnmafilabpaa
open Go.RowKit

set_option maxHeartbeats 400000 in
theorem l1In_any (x : Int) (w : World) :
    Calls Try.prog 43 #[.int .i64 x, .int .i64 (-1000000000000), .int .i64 1000000000000] w fun e w' => e = .returned (.bool (decide (-1000000000000 ≤ x ∧ x ≤ 1000000000000))) ∧ w' = w := by
  by_cases h1 : -1000000000000 ≤ x
  · by_cases h2 : x ≤ 1000000000000
    · have hd : decide (-1000000000000 ≤ x ∧ x ≤ 1000000000000) = true := by simp; omega
      rw [hd]
      go_enter Try.func43, Try.ntmps43
      go_wp2
      go_ret
      exact ⟨rfl, rfl⟩
    · have hd : decide (-1000000000000 ≤ x ∧ x ≤ 1000000000000) = false := by simp; omega
      rw [hd]
      go_enter Try.func43, Try.ntmps43
      go_wp2
      go_ret
      exact ⟨rfl, rfl⟩
  · have hd : decide (-1000000000000 ≤ x ∧ x ≤ 1000000000000) = false := by simp; omega
    rw [hd]
    go_enter Try.func43, Try.ntmps43
    go_wp2
    go_ret
    exact ⟨rfl, rfl⟩

end Go.Proofs.Ytbllnmafilabpaa

/- Whether two rows of bytes are alike, as the law's own helper finds it: two rows that read as one list are. -/
namespace Go.Proofs.Ytbllnmafilabpaa
open Go.RowKit

/-- A slice that came in reads on as it did where nothing old has turned. -/
theorem IsRow.later {k : IntKind} {w w' : World} {a : Option Addr} {len cap : Nat} {zs : List Int} (h : IsRow k w a len cap zs) (hb : Below w.heap.size w w') : IsRow k w' a len cap zs := by
  rcases h with h | ⟨x, h1, h2, h3, h4, h5, h6⟩
  · exact .inl h
  · exact .inr ⟨x, h1, h2, h3, h4, fun i hi => cell_later hb (h5 i hi), h6⟩

theorem IsRow.range {w : World} {a : Option Addr} {len cap : Nat} {zs : List Int} (h : IsRow .u8 w a len cap zs) (j : Nat) : 0 ≤ (zs.take len)[j]?.getD 0 ∧ (zs.take len)[j]?.getD 0 ≤ 255 := by
  rcases h with ⟨_, _, _, rfl⟩ | ⟨x, _, _, _, _, _, h6⟩
  · simp
  · by_cases hj : j < (zs.take len).length
    · rw [List.getElem?_eq_getElem hj, Option.getD_some]
      exact wf_u8 (h6 _ (List.mem_of_mem_take (List.getElem_mem hj)))
    · rw [List.getElem?_eq_none (by omega)]; simp

theorem IsRow.length {k : IntKind} {w : World} {a : Option Addr} {len cap : Nat} {zs : List Int} (h : IsRow k w a len cap zs) : (zs.take len).length = len := by
  rcases h with ⟨_, rfl, _, rfl⟩ | ⟨x, _, h2, _, h4, _, _⟩
  · rfl
  · simp; omega

/-- WHAT A READER IS TOLD OF A SLICE OF BYTES: its elements, nothing of its spare room. -/
def Rd (w : World) (a : Option Addr) (len : Nat) (xs : List Int) : Prop :=
  xs.length = len ∧ ∀ i, i < len → ∃ b off, a = some ⟨b, off, none⟩ ∧ w.cell? ⟨b, off + i, none⟩ = some (.int .u8 (xs.getD i 0))

theorem Rd.later {w w' : World} {a : Option Addr} {len : Nat} {xs : List Int} (h : Rd w a len xs) (hb : Below w.heap.size w w') : Rd w' a len xs :=
  ⟨h.1, fun i hi => by obtain ⟨b, off, h1, h2⟩ := h.2 i hi; exact ⟨b, off, h1, cell_later hb h2⟩⟩

/-- The cells of a row of bytes of the call's own. -/
theorem own_cells {w : World} {base g n c : Nat} {zs : List Int} (h : w.ownsRow base 5 1 (.slice (some ⟨g, 0, none⟩) n c) n (zs.map (Value.int .u8))) : ∀ i, i < n → w.cell? ⟨g, 0 + i, none⟩ = some (.int .u8 (zs.getD i 0)) := by
  intro i hi
  have hl : zs.length = n := by have := h.1; simpa using this
  rw [Nat.zero_add, h.cellAt i (by omega)]
  simp [hl, hi]

theorem own_lt {w : World} {base g n c : Nat} {zs : List Value} (h : w.ownsRow base 5 1 (.slice (some ⟨g, 0, none⟩) n c) n zs) : g < w.heap.size := by
  rcases h.2 with ⟨h', _⟩ | ⟨g', cap', cur, h', _, hg, _⟩
  · simp at h'
  · simp only [Value.slice.injEq, Option.some.injEq, Addr.mk.injEq, and_true, true_and] at h'
    obtain ⟨rfl, rfl⟩ := h'
    exact Nat.lt_of_not_le fun hn => by simp [Array.getElem?_eq_none hn] at hg

theorem IsRow.rd {w : World} {a : Option Addr} {len cap : Nat} {zs : List Int} (h : IsRow .u8 w a len cap zs) : Rd w a len (zs.take len) := by
  refine ⟨h.length, fun i hi => ?_⟩
  rcases h with ⟨_, h1, _⟩ | ⟨⟨b, off, spot⟩, rfl, hl, _, hz, hc, _⟩
  · omega
  · have hc0 := hc 0 (by omega)
    have hspot : spot = none := by simpa [Addr.add] using World.cell?_spot hc0
    subst hspot
    have hci := hc i (by omega)
    rw [Addr.add_lit] at hci
    exact ⟨b, off, rfl, by rw [hci]; simp [hi]⟩

theorem own_rd {w : World} {base g n c : Nat} {zs : List Int} (h : w.ownsRow base 5 1 (.slice (some ⟨g, 0, none⟩) n c) n (zs.map (Value.int .u8))) : Rd w (some ⟨g, 0, none⟩) n zs :=
  ⟨by have := h.1; simpa using this, fun i hi => ⟨g, 0, rfl, own_cells h i hi⟩⟩

theorem own_weak {w : World} {B B' n : Nat} {v : Value} {xs : List Value} (h : w.ownsRow B 5 1 v n xs) (hb : B' ≤ B) : w.ownsRow B' 5 1 v n xs := by
  refine ⟨h.1, ?_⟩
  rcases h.2 with h2 | ⟨g, cap, cur, h1, h2, r⟩
  · exact .inl h2
  · exact .inr ⟨g, cap, cur, h1, Nat.le_trans hb h2, r⟩

theorem below_drewN {B : Nat} {a w : World} (h : Below B a w) (q : Nat) : Below B a (w.drewN q) := by
  induction q generalizing w with
  | zero => exact h
  | succ q ih => exact (ih h).drew

end Go.Proofs.Ytbllnmafilabpaa

/- What reading a text comes to, in the program and in the model: its size, then its bytes. -/
namespace Go.Proofs.Ytbllnmafilabpaa
open Go.RowKit

def getText (zs : List Int) (p : Int) : List Int × Int × Bool :=
  if (getNum zs p).2.2 = true ∧ 0 ≤ (getNum zs p).1 ∧ (getNum zs p).1 ≤ (zs.length : Int) - (getNum zs p).2.1 then
    ((zs.drop (getNum zs p).2.1.toNat).take (getNum zs p).1.toNat, (getNum zs p).2.1 + (getNum zs p).1, true) else ([], 0, false)

theorem scan_next (zs : List Int) (a : Nat) : ∀ f k, (scan zs a f k).2.2 = true → 0 < (scan zs a f k).2.1 ∧ (scan zs a f k).2.1 ≤ zs.length := by
  intro f
  induction f with
  | zero => intro k h; simp [scan] at h
  | succ f ih =>
    intro k h
    rw [scan] at h ⊢
    split
    · rename_i h1
      rw [if_pos h1] at h
      split
      · rename_i h2
        rw [if_pos h2] at h
        exact ih (k + 1) h
      · rename_i h2
        rw [if_neg h2] at h
        split
        · rename_i h3
          rw [if_pos h3] at h
          cases h
        · show 0 < ((a + k + 1 : Nat) : Int) ∧ ((a + k + 1 : Nat) : Int) ≤ (zs.length : Int)
          omega
    · rename_i h1
      rw [if_neg h1] at h
      cases h

theorem dec_bd (c : Int) (h0 : 0 ≤ c) (h : c ≤ 2000000000000) : -1000000000000 ≤ dec c ∧ dec c ≤ 1000000000000 := by unfold dec; split <;> omega

theorem getNum_bd (zs : List Int) (p : Int) : ((getNum zs p).2.2 = true → 0 < (getNum zs p).2.1 ∧ (getNum zs p).2.1 ≤ zs.length) ∧ -1000000000000 ≤ (getNum zs p).1 ∧ (getNum zs p).1 ≤ 1000000000000 := by
  unfold getNum
  split
  · have hs := scan_next zs p.toNat 6 0
    have hb := scan_bd zs p.toNat 6 0 (by omega)
    unfold fin
    split
    · rename_i h
      exact ⟨fun _ => hs h.1, dec_bd _ hb.1 h.2⟩
    · simp
  · simp

/-- The three results of reading a text. -/
def threeT (r : List Int × Int × Bool) : Value := .tuple #[.string (strOfNums r.1), .int .i64 r.2.1, .bool r.2.2]

theorem ret3t {s : ByteArray} {b : Int} {c : Bool} {r : List Int × Int × Bool} (h : r = (r.1, b, c)) (hs : s = strOfNums r.1) : Ending.returned (.tuple #[.string s, .int .i64 b, .bool c]) = .returned (threeT r) := by
  rw [h, hs]; rfl

set_option maxRecDepth 100000 in
set_option maxHeartbeats 400000 in
theorem implGetText_any (b off n cap : Nat) (p : Int) (zs : List Int) (w : World) (hz : zs.length = n) (hm : n ≤ 1099511627776) (hcap : n ≤ cap) (hcm : cap ≤ 9223372036854775807)
    (hc : ∀ i, i < n → w.cell? ⟨b, off + i, none⟩ = some (.int .u8 (zs.getD i 0))) (hr : ∀ j : Nat, 0 ≤ zs[j]?.getD 0 ∧ zs[j]?.getD 0 ≤ 255) :
    Calls Try.prog 62 #[.slice (some ⟨b, off, none⟩) n cap, .int .i64 p] w fun e w' => e = .returned (threeT (getText zs p)) ∧ w' = w := by
  have hG := implGetNum_any b off n cap p zs w hz (by omega) hc hr
  have hbd := getNum_bd zs p
  obtain ⟨T, hT⟩ : ∃ T, getText zs p = T := ⟨_, rfl⟩
  rw [hT]
  unfold getText at hT
  generalize getNum zs p = r at *
  obtain ⟨x, nx, ok⟩ := r
  simp only [three] at hG
  simp only at hbd hT
  obtain ⟨hb1, hb2, hb3⟩ := hbd
  clear hr
  cases ok with
  | false =>
    have HT : Hid (T = ([], 0, false)) := by rw [← hT, if_neg (by simp)]; exact rfl
    clear hb1 hT hc
    go_enter Try.func62, Try.ntmps62
    go_wp2_with fail
    refine hG.mono ?_
    clear hG
    rintro e w' ⟨rfl, rfl⟩
    go_wp2
    go_ret3
    exact ⟨ret3t (by rw [HT.out]) (by rw [HT.out]; rfl), rfl⟩
  | true =>
    obtain ⟨hn0, hn1⟩ := hb1 rfl
    rw [hz] at hn1 hT
    by_cases hin : 0 ≤ x ∧ x ≤ (n : Int) - nx
    · obtain ⟨hx0, hx1⟩ := hin
      rw [if_pos ⟨rfl, hx0, hx1⟩] at hT
      obtain ⟨k, rfl⟩ := Int.eq_ofNat_of_zero_le hx0
      obtain ⟨a, rfl⟩ := Int.eq_ofNat_of_zero_le (Int.le_of_lt hn0)
      simp only [Int.toNat_natCast] at hT
      have HT : Hid (T = ((zs.drop a).take k, (a : Int) + k, true)) := hT.symm
      clear hb1 hT
      obtain ⟨S, hS⟩ : ∃ S, strOfNums ((zs.drop a).take k) = S := ⟨_, rfl⟩
      by_cases hca : cap = a
      · obtain rfl : k = 0 := by omega
        have hcv : (convert 22 9 (.slice (some ⟨b, off, none⟩) 0 0)).run Try.prog w = .ok (.string S) w := by
          rw [← hS]; exact run_convert_bytes_arg w 22 5 Try.underlying22 Try.underlying5 b off 0 0 [] rfl (by simp) 9 Try.underlying9
        have HS : Hid (S = strOfNums T.1) := by rw [HT.out]; exact hS.symm
        clear hS hc
        subst hca
        go_enter Try.func62, Try.ntmps62
        go_wp2_with fail
        refine hG.mono ?_
        clear hG
        rintro e w' ⟨rfl, rfl⟩
        go_wp2_with fail
        go_ret3
        exact ⟨ret3t (by rw [HT.out]; simp) HS.out, rfl⟩
      · have hcv : (convert 22 9 (.slice (some ⟨b, off + a, none⟩) k (cap - a))).run Try.prog w = .ok (.string S) w := by
          rw [← hS]
          refine run_convert_bytes_arg w 22 5 Try.underlying22 Try.underlying5 b (off + a) k (cap - a) ((zs.drop a).take k) (by simp; omega) (fun i hi => ?_) 9 Try.underlying9
          rw [Nat.add_assoc, hc (a + i) (by omega)]
          simp [hi]
        have HS : Hid (S = strOfNums T.1) := by rw [HT.out]; exact hS.symm
        clear hS hc
        go_enter Try.func62, Try.ntmps62
        go_wp2_with fail
        refine hG.mono ?_
        clear hG
        rintro e w' ⟨rfl, rfl⟩
        go_wp2_with fail
        go_ret3
        exact ⟨ret3t (by rw [HT.out]) HS.out, rfl⟩
    · rw [if_neg (by simpa using hin)] at hT
      have HT : Hid (T = ([], 0, false)) := hT.symm
      clear hb1 hT hc
      by_cases hx0 : x < 0
      · go_enter Try.func62, Try.ntmps62
        go_wp2_with fail
        refine hG.mono ?_
        clear hG
        rintro e w' ⟨rfl, rfl⟩
        go_wp2
        go_ret3
        exact ⟨ret3t (by rw [HT.out]) (by rw [HT.out]; rfl), rfl⟩
      · have hx1 : (n : Int) - nx < x := by omega
        go_enter Try.func62, Try.ntmps62
        go_wp2_with fail
        refine hG.mono ?_
        clear hG
        rintro e w' ⟨rfl, rfl⟩
        go_wp2
        go_ret3
        exact ⟨ret3t (by rw [HT.out]) (by rw [HT.out]; rfl), rfl⟩

end Go.Proofs.Ytbllnmafilabpaa

/- The cursor of a draw: what its reading of a byte, a number below another, an element of a list and a row of bytes keep; of what is drawn only that it is in its range. -/
namespace Go.Proofs.Ytbllnmafilabpaa
open Go.RowKit

/-- A cursor lies in block p: the bytes of the draw, the place, the mix. -/
def Cur (w : World) (p : Nat) (a : Option Addr) (len cap : Nat) : Prop :=
  ∃ (i : Nat) (h : Int), i ≤ len ∧ w.heap[p]? = some (.cells #[.slice a len cap, .int .i64 i, .int .i64 h] 54 (0, 0))

theorem and255 (n : Int) : 0 ≤ bits .and .i64 n 255 ∧ bits .and .i64 n 255 ≤ 255 := by
  have h1 : (BitVec.ofInt 64 255).toNat = 2 ^ 8 - 1 := by decide
  have key : (BitVec.ofInt 64 n &&& BitVec.ofInt 64 255).toNat = (n % ((2 ^ 64 : Nat) : Int)).toNat % 2 ^ 8 := by
    rw [BitVec.toNat_and, BitVec.toNat_ofInt, h1, Nat.and_two_pow_sub_one_eq_mod]
  have e : bits .and .i64 n 255 = IntKind.i64.wrap ((BitVec.ofInt 64 n &&& BitVec.ofInt 64 255).toNat : Nat) := rfl
  rw [e, key, IntKind.wrap_i64]
  omega

theorem grownBy_trans {w w1 w2 : World} {r : Option Nat} (h : w.grownBy w1 r) (k : w1.grownBy w2 r) : w.grownBy w2 r :=
  ⟨k.os.trans h.os, k.tape.trans h.tape, k.output.trans h.output, Nat.le_trans h.size k.size, fun j hj hne => (k.block j (Nat.lt_of_lt_of_le hj h.size) hne).trans (h.block j hj hne)⟩

theorem grownBy_setCell (w : World) (p j : Nat) (u : Value) : w.grownBy (w.setCell ⟨p, j, none⟩ u) (some p) :=
  ⟨rfl, rfl, rfl, by simp, fun k _ hk => heap_setCell_other w ⟨p, j, none⟩ k u (fun e => hk (by simp [e]))⟩

theorem grownBy_drewN {w w1 : World} {r : Option Nat} (h : w.grownBy w1 r) (q : Nat) : w.grownBy (w1.drewN q) r := by
  induction q with
  | zero => exact h
  | succ q ih => exact ⟨ih.os, ih.tape, ih.output, ih.size, ih.block⟩

theorem heap_drewN (w : World) (q : Nat) : (w.drewN q).heap = w.heap := by
  induction q with
  | zero => rfl
  | succ q ih => exact ih

theorem cur_done {w : World} {p len cap i : Nat} {a : Option Addr} {h : Int} (hh : w.heap[p]? = some (.cells #[.slice a len cap, .int .i64 i, .int .i64 h] 54 (0, 0))) (hi : i < len) (v : Int) (q : Nat) :
    Cur (((w.setCell ⟨p, 2, none⟩ (.int .i64 v)).drewN q).setCell ⟨p, 1, none⟩ (.int .i64 ((i : Int) + 1))) p a len cap ∧
      w.grownBy (((w.setCell ⟨p, 2, none⟩ (.int .i64 v)).drewN q).setCell ⟨p, 1, none⟩ (.int .i64 ((i : Int) + 1))) (some p) := by
  have h1 := heap_setCell_same w p 2 _ _ (.int .i64 v) hh
  have h2 : ((w.setCell ⟨p, 2, none⟩ (.int .i64 v)).drewN q).heap[p]? = some (.cells #[.slice a len cap, .int .i64 i, .int .i64 v] 54 (0, 0)) := by rw [heap_drewN, h1]; rfl
  have h3 := heap_setCell_same _ p 1 _ _ (.int .i64 ((i : Int) + 1)) h2
  exact ⟨⟨i + 1, v, by omega, by rw [h3]; rfl⟩, grownBy_trans (grownBy_drewN (grownBy_setCell w p 2 _) q) (grownBy_setCell _ p 1 _)⟩

theorem cur_same {w : World} {p len cap i : Nat} {a : Option Addr} {h : Int} (hh : w.heap[p]? = some (.cells #[.slice a len cap, .int .i64 i, .int .i64 h] 54 (0, 0))) (hi : i ≤ len) (v : Int) (q r : Nat) :
    Cur (((w.setCell ⟨p, 2, none⟩ (.int .i64 v)).drewN q).drewN r) p a len cap ∧ w.grownBy (((w.setCell ⟨p, 2, none⟩ (.int .i64 v)).drewN q).drewN r) (some p) := by
  have h1 := heap_setCell_same w p 2 _ _ (.int .i64 v) hh
  have h2 : (((w.setCell ⟨p, 2, none⟩ (.int .i64 v)).drewN q).drewN r).heap[p]? = some (.cells #[.slice a len cap, .int .i64 i, .int .i64 v] 54 (0, 0)) := by rw [heap_drewN, heap_drewN, h1]; rfl
  exact ⟨⟨i, v, hi, h2⟩, grownBy_drewN (grownBy_drewN (grownBy_setCell w p 2 _) q) r⟩

set_option maxHeartbeats 400000 in
theorem l1Byte_in (p b off len cap i : Nat) (h x : Int) (w : World) (hh : w.heap[p]? = some (.cells #[.slice (some ⟨b, off, none⟩) len cap, .int .i64 i, .int .i64 h] 54 (0, 0)))
    (hi : i < len) (hm : len ≤ 4611686018427387904) (hx : w.cell? ⟨b, off + i, none⟩ = some (.int .u8 x)) (hne : b ≠ p) :
    Calls Try.prog 58 #[.pointer (some ⟨p, 0, none⟩)] w fun e w' => ∃ y : Int, 0 ≤ y ∧ y ≤ 255 ∧ e = .returned (.int .i64 y) ∧ Cur w' p (some ⟨b, off, none⟩) len cap ∧ w.grownBy w' (some p) := by
  have c0 : w.cell? ⟨p, 0, none⟩ = some (.slice (some ⟨b, off, none⟩) len cap) := by rw [cell_of_row w p 0 _ _ _ hh]; rfl
  have c1 : w.cell? ⟨p, 1, none⟩ = some (.int .i64 i) := by rw [cell_of_row w p 1 _ _ _ hh]; rfl
  have c2 : w.cell? ⟨p, 2, none⟩ = some (.int .i64 h) := by rw [cell_of_row w p 2 _ _ _ hh]; rfl
  have f1 : w.frozen? ⟨p, 1, none⟩ = false := frozen_of_row w p 1 _ _ hh
  have f2 : w.frozen? ⟨p, 2, none⟩ = false := frozen_of_row w p 2 _ _ hh
  have HH : Hid (w.heap[p]? = some (.cells #[.slice (some ⟨b, off, none⟩) len cap, .int .i64 i, .int .i64 h] 54 (0, 0))) := hh
  clear hh
  have hil : (i : Int) < (len : Int) := by omega
  go_enter Try.func58, Try.ntmps58
  go_wp2
  go_quiet (fail)
  go_wp2
  go_quiet (fail)
  go_wp2
  go_quiet (fail)
  go_wp2
  go_ret
  refine ⟨_, ?_, ?_, rfl, (cur_done HH.out hi _ _).1, (cur_done HH.out hi _ _).2⟩
  · exact (and255 _).1
  · exact (and255 _).2

set_option maxHeartbeats 400000 in
theorem l1Byte_out (p len cap i : Nat) (a : Option Addr) (h : Int) (w : World) (hh : w.heap[p]? = some (.cells #[.slice a len cap, .int .i64 i, .int .i64 h] 54 (0, 0))) (hi : i = len) (hm : len ≤ 4611686018427387904) :
    Calls Try.prog 58 #[.pointer (some ⟨p, 0, none⟩)] w fun e w' => ∃ y : Int, 0 ≤ y ∧ y ≤ 255 ∧ e = .returned (.int .i64 y) ∧ Cur w' p a len cap ∧ w.grownBy w' (some p) := by
  subst hi
  have c0 : w.cell? ⟨p, 0, none⟩ = some (.slice a i cap) := by rw [cell_of_row w p 0 _ _ _ hh]; rfl
  have c1 : w.cell? ⟨p, 1, none⟩ = some (.int .i64 i) := by rw [cell_of_row w p 1 _ _ _ hh]; rfl
  have c2 : w.cell? ⟨p, 2, none⟩ = some (.int .i64 h) := by rw [cell_of_row w p 2 _ _ _ hh]; rfl
  have f2 : w.frozen? ⟨p, 2, none⟩ = false := frozen_of_row w p 2 _ _ hh
  have HH : Hid (w.heap[p]? = some (.cells #[.slice a i cap, .int .i64 i, .int .i64 h] 54 (0, 0))) := hh
  clear hh
  go_enter Try.func58, Try.ntmps58
  go_wp2
  go_quiet (fail)
  go_wp2
  go_quiet (fail)
  go_wp2
  go_ret
  refine ⟨_, ?_, ?_, rfl, (cur_same HH.out (Nat.le_refl _) _ _ _).1, (cur_same HH.out (Nat.le_refl _) _ _ _).2⟩
  · exact (and255 _).1
  · exact (and255 _).2

theorem IsRow.grown {k : IntKind} {w w' : World} {a : Option Addr} {len cap p : Nat} {zs : List Int} (h : IsRow k w a len cap zs) (hg : w.grownBy w' (some p)) (hne : ∀ x, a = some x → 0 < cap → x.block ≠ p) : IsRow k w' a len cap zs := by
  rcases h with h | ⟨x, h1, h2, h3, h4, h5, h6⟩
  · exact .inl h
  · refine .inr ⟨x, h1, h2, h3, h4, fun i hi => ?_, h6⟩
    have hb : (x.add i).block = x.block := by unfold Addr.add; split <;> rfl
    have hlt := World.block_lt_of_cell? _ _ (h5 i hi)
    rw [World.cell?_of_block (w := w) (hg.block _ hlt (by rw [hb]; simpa using hne x h1 (by omega)))]
    exact h5 i hi

theorem l1Byte_any (p len cap : Nat) (a : Option Addr) (zs : List Int) (w : World) (hc : Cur w p a len cap) (hr : IsRow .u8 w a len cap zs) (hne : ∀ x, a = some x → 0 < cap → x.block ≠ p) (hm : len ≤ 4611686018427387904) :
    Calls Try.prog 58 #[.pointer (some ⟨p, 0, none⟩)] w fun e w' => ∃ y : Int, 0 ≤ y ∧ y ≤ 255 ∧ e = .returned (.int .i64 y) ∧ Cur w' p a len cap ∧ w.grownBy w' (some p) := by
  obtain ⟨i, h, hi, hh⟩ := hc
  by_cases hlt : i < len
  · rcases hr with ⟨_, h1, _⟩ | ⟨⟨b, off, spot⟩, rfl, hl, _, hz, hcl, _⟩
    · omega
    · have hc0 := hcl 0 (by omega)
      have hspot : spot = none := by simpa [Addr.add] using World.cell?_spot hc0
      subst hspot
      have hci := hcl i (by omega)
      rw [Addr.add_lit] at hci
      exact l1Byte_in p b off len cap i h _ w hh hlt hm hci (hne _ rfl (by omega))
  · exact l1Byte_out p len cap i a h w hh (by omega) hm

set_option maxHeartbeats 400000 in
theorem l1Below_any (p len cap : Nat) (a : Option Addr) (zs : List Int) (n : Int) (w : World) (hc : Cur w p a len cap) (hr : IsRow .u8 w a len cap zs) (hne : ∀ x, a = some x → 0 < cap → x.block ≠ p) (hm : len ≤ 4611686018427387904) (hn : 0 < n) (hn' : n ≤ 4611686018427387904) :
    Calls Try.prog 39 #[.pointer (some ⟨p, 0, none⟩), .int .i64 n] w fun e w' => ∃ y : Int, 0 ≤ y ∧ y < n ∧ e = .returned (.int .i64 y) ∧ Cur w' p a len cap ∧ w.grownBy w' (some p) := by
  have HB := fun (W : World) (hc : Cur W p a len cap) (hr : IsRow .u8 W a len cap zs) => l1Byte_any p len cap a zs W hc hr hne hm
  have HN : Hid (∀ x, a = some x → 0 < cap → x.block ≠ p) := hne
  clear hne
  by_cases h256 : n ≤ 256
  · go_enter Try.func39, Try.ntmps39
    go_wp2_with fail
    refine (HB w hc hr).mono ?_
    rintro e w1 ⟨y, hy0, hy1, rfl, hc1, hg1⟩
    clear HB hc hr
    go_wp2
    go_ret
    exact ⟨_, Int.emod_nonneg _ (by omega), Int.emod_lt_of_pos _ hn, rfl, hc1, hg1⟩
  · go_enter Try.func39, Try.ntmps39
    go_wp2_with fail
    refine (HB w hc hr).mono ?_
    rintro e w1 ⟨y, hy0, hy1, rfl, hc1, hg1⟩
    have hr1 := hr.grown hg1 HN.out
    go_wp2_with fail
    refine (HB w1 hc1 hr1).mono ?_
    rintro e w2 ⟨y2, hy20, hy21, rfl, hc2, hg2⟩
    have hr2 := hr1.grown hg2 HN.out
    have hg3 := grownBy_trans hg1 hg2
    go_wp2_with fail
    refine (HB w2 hc2 hr2).mono ?_
    rintro e w3 ⟨y3, hy30, hy31, rfl, hc3, hg4⟩
    have hg5 := grownBy_trans hg3 hg4
    clear HB hc hr hr1 hr2 hc1 hc2 hg1 hg2 hg3 hg4
    go_wp2
    go_ret
    exact ⟨_, Int.emod_nonneg _ (by omega), Int.emod_lt_of_pos _ hn, rfl, hc3, hg5⟩

set_option maxHeartbeats 400000 in
theorem l1Int_any (p len cap : Nat) (a : Option Addr) (zs : List Int) (q o m c : Nat) (ns : List Int) (w : World) (hc : Cur w p a len cap) (hr : IsRow .u8 w a len cap zs) (hne : ∀ x, a = some x → 0 < cap → x.block ≠ p) (hm : len ≤ 4611686018427387904)
    (hq : q ≠ p) (hns : ns.length = m) (hm0 : 0 < m) (hm1 : m ≤ 1073741824) (hcell : ∀ j, j < m → w.cell? ⟨q, o + j, none⟩ = some (.int .i64 (ns.getD j 0))) :
    Calls Try.prog 40 #[.pointer (some ⟨p, 0, none⟩), .slice (some ⟨q, o, none⟩) m c] w fun e w' => ∃ x, x ∈ ns ∧ e = .returned (.int .i64 x) ∧ Cur w' p a len cap ∧ w.grownBy w' (some p) := by
  have HB := l1Below_any p len cap a zs m w hc hr hne hm (by omega) (by omega)
  clear hc hr hne
  go_enter Try.func40, Try.ntmps40
  go_wp2_with fail
  refine HB.mono ?_
  clear HB
  rintro e w1 ⟨y, hy0, hy1, rfl, hc1, hg1⟩
  obtain ⟨j, rfl⟩ := Int.eq_ofNat_of_zero_le hy0
  have hcj := hcell j (by omega)
  have hcj1 : w1.cell? ⟨q, o + j, none⟩ = some (.int .i64 (ns.getD j 0)) := by
    rw [World.cell?_of_block (w := w) (hg1.block q (World.block_lt_of_cell? _ _ hcj) (by simpa using hq))]; exact hcj
  obtain ⟨x, hx⟩ : ∃ x, ns.getD j 0 = x := ⟨_, rfl⟩
  have hmem : x ∈ ns := by
    rw [← hx, List.getD_eq_getElem?_getD, List.getElem?_eq_getElem (by omega), Option.getD_some]; exact List.getElem_mem _
  rw [hx] at hcj1
  clear hcell hcj hx
  go_wp2
  go_ret
  exact ⟨x, hmem, rfl, hc1, hg1⟩

theorem cur_one_new (w : World) (x : Value) (t : TypeId) : ∀ j u, [x][j]? = some u → (w.alloc (.cells #[x] t)).cell? ((⟨w.heap.size, 0, none⟩ : Addr).add j) = some u := by
  intro j u hj
  match j, hj with
  | 0, hj => simp at hj; subst hj; simp [Addr.add]

theorem cur_snoc_map (xs : List Int) (x : Int) : xs.map (Value.int .u8) ++ [Value.int .u8 x] = (xs ++ [x]).map (Value.int .u8) := by simp

theorem Cur.lt {w : World} {p len cap : Nat} {a : Option Addr} (h : Cur w p a len cap) : p < w.heap.size := by
  obtain ⟨i, k, _, hh⟩ := h
  exact Nat.lt_of_not_le fun hn => by simp [Array.getElem?_eq_none hn] at hh

theorem Cur.same {w w' : World} {p len cap : Nat} {a : Option Addr} (h : Cur w p a len cap) (hh : w'.heap[p]? = w.heap[p]?) : Cur w' p a len cap := by
  obtain ⟨i, k, hi, hk⟩ := h
  exact ⟨i, k, hi, by rw [hh]; exact hk⟩

end Go.Proofs.Ytbllnmafilabpaa

/- What every draw begins with: a new cursor; an element of a list of texts; and the law's limit. -/
namespace Go.Proofs.Ytbllnmafilabpaa
open Go.RowKit

set_option maxRecDepth 100000 in
set_option maxHeartbeats 400000 in
theorem l1New_any (a : Option Addr) (len cap : Nat) (zs : List Int) (w : World) (hr : IsRow .u8 w a len cap zs) (hm : len ≤ 4611686018427387904) :
    Calls Try.prog 15 #[.slice a len cap] w fun e w' => e = .returned (.pointer (some ⟨w.heap.size, 0, none⟩)) ∧ Cur w' w.heap.size a len cap ∧ Below w.heap.size w w' := by
  go_enter Try.func15, Try.ntmps15
  go_wp2
  go_loop [3, 4] (fun h i => ∃ (k : Nat) (x : Int), k ≤ len ∧ i = .int .i64 k ∧ h = .int .i64 x) (fun _ i => len - (intOf i).toNat)
  case atStart => exact ⟨0, _, Nat.zero_le _, rfl, rfl⟩
  case round =>
    obtain ⟨k, x, hk, rfl, rfl⟩ := hrel
    by_cases hlt : k < len ∧ k < 4000
    · obtain ⟨hl1, hl2⟩ := hlt
      rcases hr with ⟨_, h1, _⟩ | ⟨⟨b, off, spot⟩, rfl, hl, _, hz, hcl, _⟩
      · omega
      · have hc0 := hcl 0 (by omega)
        have hspot : spot = none := by simpa [Addr.add] using World.cell?_spot hc0
        subst hspot
        obtain ⟨y, hy⟩ : ∃ y, w.cell? ⟨b, off + k, none⟩ = some (.int .u8 y) := ⟨_, by have := hcl k (by omega); rw [Addr.add_lit] at this; exact this⟩
        clear hcl hc0
        go_wp2
        go_round
        case rel => exact ⟨k + 1, _, by omega, by go_num, rfl⟩
        case measure => simp [intOf]; omega
    · have hcase : ¬ k < len ∨ (k < len ∧ ¬ k < 4000) := by omega
      have hcur : Cur (w.alloc (.cells #[.slice a len cap, .int .i64 0, .int .i64 x] 54)) w.heap.size a len cap := ⟨0, x, Nat.zero_le _, heap_alloc_new w _⟩
      have hbel : Below w.heap.size w (w.alloc (.cells #[.slice a len cap, .int .i64 0, .int .i64 x] 54)) := (Below.refl _ _).alloc (Nat.le_refl _) _
      rcases hcase with h1 | ⟨h1, h2⟩
      · clear hlt hr
        go_wp2
        go_ret
        exact ⟨rfl, hcur, hbel⟩
      · clear hlt hr
        go_wp2
        go_ret
        exact ⟨rfl, hcur, hbel⟩

/-- The cells of a list that the call has just laid. -/
theorem list_cells (w : World) (ns : List Int) (vs : Array Value) (t : TypeId) (h : vs = (ns.map (Value.int .i64)).toArray) : ∀ j, j < ns.length → (w.alloc (.cells vs t)).cell? ⟨w.heap.size, 0 + j, none⟩ = some (.int .i64 (ns.getD j 0)) := by
  intro j hj
  rw [World.cell?_alloc_at vs t w.heap.size (0 + j) rfl, h]
  simp [hj]

/-- The block of a slice that came in is none that is laid later. -/
theorem isRow_old {k : IntKind} {w : World} {a : Option Addr} {len cap : Nat} {zs : List Int} (hr : IsRow k w a len cap zs) : ∀ x, a = some x → 0 < cap → x.block ≠ w.heap.size := by
  intro x hx h0 e
  rcases hr with ⟨h1, _⟩ | ⟨y, h1, h2, _, h4, h5, _⟩
  · simp [h1] at hx
  · have hlt := World.block_lt_of_cell? _ _ (h5 0 (by omega))
    have hb : (y.add 0).block = y.block := by unfold Addr.add; split <;> rfl
    rw [hx] at h1
    cases h1
    omega

theorem grown_below {w w' : World} {B p : Nat} (h : w.grownBy w' (some p)) (hp : B ≤ p) (hB : B ≤ w.heap.size) : Below B w w' := (Below.refl _ w).grown h hB (fun k hk => by cases hk; exact hp)

theorem big_no (a : Option Addr) (len cap : Nat) (w : World) (h : len ≤ 1048576) : Calls Try.prog 5 #[.slice a len cap] w fun e w' => e = .returned (.bool false) ∧ w = w' := by
  have hd : decide ((1048576 : Int) < (len : Int)) = false := by simp; omega
  go_enter Try.func5, Try.ntmps5
  go_wp2
  go_ret
  exact ⟨by rw [← hd]; rfl, rfl⟩
theorem big_yes (a : Option Addr) (len cap : Nat) (w : World) (h : 1048576 < len) : Calls Try.prog 5 #[.slice a len cap] w fun e w' => e = .returned (.bool true) ∧ w = w' := by
  have hd : decide ((1048576 : Int) < (len : Int)) = true := by simp; omega
  go_enter Try.func5, Try.ntmps5
  go_wp2
  go_ret
  exact ⟨by rw [← hd]; rfl, rfl⟩

/-- The cells of a list of texts that the call has just laid. -/
theorem list_cellsS (w : World) (ns : List ByteArray) (vs : Array Value) (t : TypeId) (h : vs = (ns.map Value.string).toArray) : ∀ j, j < ns.length → (w.alloc (.cells vs t)).cell? ⟨w.heap.size, 0 + j, none⟩ = some (.string (ns.getD j ⟨#[]⟩)) := by
  intro j hj
  rw [World.cell?_alloc_at vs t w.heap.size (0 + j) rfl, h]
  simp [hj]

set_option maxHeartbeats 400000 in
theorem l1Str_any (p len cap : Nat) (a : Option Addr) (zs : List Int) (q o m c : Nat) (ns : List ByteArray) (w : World) (hc : Cur w p a len cap) (hr : IsRow .u8 w a len cap zs) (hne : ∀ x, a = some x → 0 < cap → x.block ≠ p) (hm : len ≤ 4611686018427387904)
    (hq : q ≠ p) (hns : ns.length = m) (hm0 : 0 < m) (hm1 : m ≤ 1073741824) (hcell : ∀ j, j < m → w.cell? ⟨q, o + j, none⟩ = some (.string (ns.getD j ⟨#[]⟩))) :
    Calls Try.prog 41 #[.pointer (some ⟨p, 0, none⟩), .slice (some ⟨q, o, none⟩) m c] w fun e w' => ∃ x, x ∈ ns ∧ e = .returned (.string x) ∧ Cur w' p a len cap ∧ w.grownBy w' (some p) := by
  have HB := l1Below_any p len cap a zs m w hc hr hne hm (by omega) (by omega)
  clear hc hr hne
  go_enter Try.func41, Try.ntmps41
  go_wp2_with fail
  refine HB.mono ?_
  clear HB
  rintro e w1 ⟨y, hy0, hy1, rfl, hc1, hg1⟩
  obtain ⟨j, rfl⟩ := Int.eq_ofNat_of_zero_le hy0
  have hcj := hcell j (by omega)
  have hcj1 : w1.cell? ⟨q, o + j, none⟩ = some (.string (ns.getD j ⟨#[]⟩)) := by
    rw [World.cell?_of_block (w := w) (hg1.block q (World.block_lt_of_cell? _ _ hcj) (by simpa using hq))]; exact hcj
  obtain ⟨x, hx⟩ : ∃ x, ns.getD j ⟨#[]⟩ = x := ⟨_, rfl⟩
  have hmem : x ∈ ns := by
    rw [← hx, List.getD_eq_getElem?_getD, List.getElem?_eq_getElem (by omega), Option.getD_some]; exact List.getElem_mem _
  rw [hx] at hcj1
  clear hcell hcj hx
  go_wp2
  go_ret
  exact ⟨x, hmem, rfl, hc1, hg1⟩

theorem grown_set {w w2 : World} {p g j : Nat} {u : Value} (h : w.grownBy w2 (some p)) (hg : w.heap.size ≤ g) : w.grownBy (w2.setCell ⟨g, j, none⟩ u) (some p) :=
  ⟨h.os, h.tape, h.output, by simpa using h.size, fun k hk hne => (heap_setCell_other w2 ⟨g, j, none⟩ k u (fun e => by simp at e; omega)).trans (h.block k hk hne)⟩
theorem cur_set {w2 : World} {p g j len cap : Nat} {a : Option Addr} {u : Value} (h : Cur w2 p a len cap) (hg : p ≠ g) : Cur (w2.setCell ⟨g, j, none⟩ u) p a len cap :=
  h.same (heap_setCell_other w2 ⟨g, j, none⟩ p u (fun e => by simp at e; omega))

end Go.Proofs.Ytbllnmafilabpaa
