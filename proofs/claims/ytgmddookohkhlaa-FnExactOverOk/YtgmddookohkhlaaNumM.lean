/- Plain facts, without the program: how a number is read off groups of seven bits, and what the two readers' arithmetic comes to. -/
import Derived.Laws.Bits128
import Derived.WalkKit
import Derived.Test.YtgmddookohkhlaaRows
import Derived.WalkSpells
import Derived.WalkLawsBesides
import Derived.BigQuiet
import Derived.Deep.QuietTactic
namespace Go.Proofs.Ytgmddookohkhlaa

/-- The sum of the first k groups from place a on. -/
def grp (zs : List Int) (a : Nat) : Nat → Int
  | 0 => 0
  | k + 1 => grp zs a k + zs[a + k]?.getD 0 % 128 * 2 ^ (7 * k)

/-- What reading comes to with f groups more that may be read, k groups behind: the code, the place behind, whether it is there. -/
def scan (zs : List Int) (a : Nat) : Nat → Nat → Int × Int × Bool
  | 0, _ => (0, 0, false)
  | f + 1, k => if a + k < zs.length then
      (if 127 < zs[a + k]?.getD 0 then scan zs a f (k + 1)
       else if zs[a + k]?.getD 0 = 0 ∧ 0 < k then (0, 0, false) else (grp zs a (k + 1), ((a + k + 1 : Nat) : Int), true))
      else (0, 0, false)

/-- The number of a code. -/
def dec (c : Int) : Int := if c % 2 = 1 then -(c / 2) - 1 else c / 2

def fin (r : Int × Int × Bool) : Int × Int × Bool := if r.2.2 = true ∧ r.1 ≤ 2000000000000 then (dec r.1, r.2.1, true) else (0, 0, false)

/-- What GetNum answers at a list of bytes and a place. -/
def getNum (zs : List Int) (p : Int) : Int × Int × Bool := if 0 ≤ p ∧ p < zs.length then fin (scan zs p.toNat 6 0) else (0, 0, false)

theorem pow_succ7 (k : Nat) : (2 : Int) ^ (7 * (k + 1)) = 2 ^ (7 * k) * 128 := by
  rw [show 7 * (k + 1) = 7 * k + 7 from by omega, Int.pow_add]; rfl

theorem grp_bd (zs : List Int) (a k : Nat) : 0 ≤ grp zs a k ∧ grp zs a k < 2 ^ (7 * k) := by
  induction k with
  | zero => simp [grp]
  | succ k ih =>
    have h1 : 0 ≤ zs[a + k]?.getD 0 % 128 := Int.emod_nonneg _ (by decide)
    have h2 : zs[a + k]?.getD 0 % 128 ≤ 127 := by have := Int.emod_lt_of_pos (zs[a + k]?.getD 0) (show (0 : Int) < 128 by decide); omega
    have hp : (0 : Int) < 2 ^ (7 * k) := Int.pow_pos (by decide)
    rw [pow_succ7]
    show 0 ≤ grp zs a k + _ ∧ grp zs a k + _ < _
    generalize zs[a + k]?.getD 0 % 128 = x at *
    generalize (2 : Int) ^ (7 * k) = q at *
    have h3 : 0 ≤ x * q := Int.mul_nonneg h1 (by omega)
    have h4 : x * q ≤ 127 * q := Int.mul_le_mul_of_nonneg_right h2 (by omega)
    omega

theorem pow_le6 (k : Nat) (h : k ≤ 6) : (2 : Int) ^ (7 * k) ≤ 4398046511104 := by
  have : ∀ j, j ≤ 6 → (2 : Int) ^ (7 * j) ≤ 4398046511104 := by decide
  exact this k h

theorem wraps_i64 (n : Int) (h₀ : 0 ≤ n) (h₁ : n < 2 ^ 62) : IntKind.i64.wrap n = n := by rw [IntKind.wrap_i64]; omega

/-- Another group joins those behind it by 'or' as by a sum. -/
theorem or_grp (m x : Int) (k : Nat) (hk : k ≤ 5) (hm0 : 0 ≤ m) (hm : m < 2 ^ (7 * k)) (hx0 : 0 ≤ x) (hx : x ≤ 127) : bits .or .i64 m (x * 2 ^ (7 * k)) = m + x * 2 ^ (7 * k) := by
  have hp := pow_le6 k (by omega)
  have h5 : (2 : Int) ^ (7 * k) ≤ 34359738368 := by
    have : ∀ j, j ≤ 5 → (2 : Int) ^ (7 * j) ≤ 34359738368 := by decide
    exact this k hk
  have hq : (0 : Int) < 2 ^ (7 * k) := Int.pow_pos (by decide)
  have hc : bits .or .i64 m (x * 2 ^ (7 * k)) = bits .or .i64 (x * 2 ^ (7 * k)) m := by simp only [bits, BitVec.or_comm]
  have hmod : x * 2 ^ (7 * k) % 2 ^ (7 * k) = 0 := Int.mul_emod_left _ _
  have hle : x * 2 ^ (7 * k) ≤ 127 * 2 ^ (7 * k) := Int.mul_le_mul_of_nonneg_right hx (by omega)
  have h0 : 0 ≤ x * 2 ^ (7 * k) := Int.mul_nonneg hx0 (by omega)
  rw [hc, bits_join .i64 62 (by decide) wraps_i64 (7 * k) _ m h0 hmod (by omega) hm0 hm (by omega)]
  omega

theorem and1 (n : Int) : bits .and .i64 n 1 = n % 2 := by
  have h1 : (BitVec.ofInt 64 1).toNat = 2 ^ 1 - 1 := by decide
  have key : (BitVec.ofInt 64 n &&& BitVec.ofInt 64 1).toNat = (n % ((2 ^ 64 : Nat) : Int)).toNat % 2 ^ 1 := by
    rw [BitVec.toNat_and, BitVec.toNat_ofInt, h1, Nat.and_two_pow_sub_one_eq_mod]
  show IntKind.i64.wrap ((BitVec.ofInt 64 n &&& BitVec.ofInt 64 1).toNat : Nat) = n % 2
  rw [key, IntKind.wrap_i64]
  omega

theorem grp_step (zs : List Int) (a k : Nat) (x : Int) (hk : k < 6) (hx : x = zs[a + k]?.getD 0) :
    RowKit.wrap64 (grp zs a k + RowKit.wrap64 (x % 128 * 2 ^ (7 * k))) = grp zs a (k + 1) := by
  have hg := grp_bd zs a k
  have hs := grp_bd zs a (k + 1)
  have hp := pow_le6 (k + 1) (by omega)
  have e : grp zs a (k + 1) = grp zs a k + x % 128 * 2 ^ (7 * k) := by rw [hx]; rfl
  have h1 : 0 ≤ x % 128 := Int.emod_nonneg _ (by decide)
  have hq : (0 : Int) < 2 ^ (7 * k) := Int.pow_pos (by decide)
  have h3 : 0 ≤ x % 128 * 2 ^ (7 * k) := Int.mul_nonneg h1 (by omega)
  rw [IntWalk.wrap64_in (x % 128 * 2 ^ (7 * k)) ⟨by omega, by omega⟩, IntWalk.wrap64_in _ ⟨by omega, by omega⟩, e]

theorem or_step (zs : List Int) (a k : Nat) (x : Int) (hk : k < 6) (hx : x = zs[a + k]?.getD 0) :
    bits .or .i64 (grp zs a k) (RowKit.wrap64 (x % 128 * 2 ^ (7 * k))) = grp zs a (k + 1) := by
  have hg := grp_bd zs a k
  have hs := grp_bd zs a (k + 1)
  have hp := pow_le6 (k + 1) (by omega)
  have e : grp zs a (k + 1) = grp zs a k + x % 128 * 2 ^ (7 * k) := by rw [hx]; rfl
  have h1 : 0 ≤ x % 128 := Int.emod_nonneg _ (by decide)
  have h2 : x % 128 ≤ 127 := by have := Int.emod_lt_of_pos x (show (0 : Int) < 128 by decide); omega
  have hq : (0 : Int) < 2 ^ (7 * k) := Int.pow_pos (by decide)
  have h3 : 0 ≤ x % 128 * 2 ^ (7 * k) := Int.mul_nonneg h1 (by omega)
  rw [IntWalk.wrap64_in (x % 128 * 2 ^ (7 * k)) ⟨by omega, by omega⟩, or_grp _ _ k (by omega) hg.1 hg.2 h1 h2, e]

theorem fin_no {c nx : Int} (h : 2000000000000 < c) : fin (c, nx, true) = (0, 0, false) := by unfold fin; rw [if_neg (by simp; omega)]
theorem fin_odd {c nx : Int} (h : c ≤ 2000000000000) (ho : c % 2 = 1) : fin (c, nx, true) = (-(c / 2) - 1, nx, true) := by unfold fin; rw [if_pos ⟨rfl, h⟩, dec, if_pos ho]
theorem fin_even {c nx : Int} (h : c ≤ 2000000000000) (ho : ¬ c % 2 = 1) : fin (c, nx, true) = (c / 2, nx, true) := by unfold fin; rw [if_pos ⟨rfl, h⟩, dec, if_neg ho]

theorem scan_go (zs : List Int) (a k : Nat) (x : Int) (hk : k < 6) (hl : a + k < zs.length) (hx : x = zs[a + k]?.getD 0) (h : 127 < x) : scan zs a (6 - k) k = scan zs a (6 - (k + 1)) (k + 1) := by
  rw [show 6 - k = (6 - (k + 1)) + 1 from by omega]
  subst hx
  simp only [scan, if_pos hl, if_pos h]
theorem scan_zero (zs : List Int) (a k : Nat) (x : Int) (hk : k < 6) (hl : a + k < zs.length) (hx : x = zs[a + k]?.getD 0) (h : x = 0) (h0 : 0 < k) : scan zs a (6 - k) k = (0, 0, false) := by
  rw [show 6 - k = (6 - (k + 1)) + 1 from by omega]
  subst hx
  rw [scan, if_pos hl, if_neg (by omega), if_pos ⟨h, h0⟩]
theorem scan_yes (zs : List Int) (a k : Nat) (x : Int) (hk : k < 6) (hl : a + k < zs.length) (hx : x = zs[a + k]?.getD 0) (h : x ≤ 127) (h0 : ¬ (x = 0 ∧ 0 < k)) : scan zs a (6 - k) k = (grp zs a (k + 1), ((a + k + 1 : Nat) : Int), true) := by
  rw [show 6 - k = (6 - (k + 1)) + 1 from by omega]
  subst hx
  rw [scan, if_pos hl, if_neg (by omega), if_neg h0]
theorem scan_end (zs : List Int) (a k : Nat) (hk : k ≤ 6) (h : k = 6 ∨ zs.length ≤ a + k) : scan zs a (6 - k) k = (0, 0, false) := by
  by_cases h6 : k = 6
  · subst h6; rfl
  · rw [show 6 - k = (6 - (k + 1)) + 1 from by omega, scan, if_neg (by omega)]
/-- What reading comes to: a code within its bounds and a place, or nothing. -/
theorem scan_bd (zs : List Int) (a : Nat) : ∀ f k, f + k ≤ 6 → 0 ≤ (scan zs a f k).1 ∧ (scan zs a f k).1 ≤ 4398046511104 ∧ ((scan zs a f k).2.2 = false → (scan zs a f k) = (0, 0, false)) := by
  intro f
  induction f with
  | zero => intro k _; simp [scan]
  | succ f ih =>
    intro k hk
    rw [scan]
    split
    · split
      · exact ih (k + 1) (by omega)
      · split
        · simp
        · have hs := grp_bd zs a (k + 1)
          have hp := pow_le6 (k + 1) (by omega)
          exact ⟨hs.1, by show grp zs a (k + 1) ≤ _; omega, fun h => by cases h⟩
    · simp

end Go.Proofs.Ytgmddookohkhlaa

/- What the law's own helpers do to memory: a copy of bytes in new memory, and whether two rows of bytes are alike. -/
namespace Go.Proofs.Ytgmddookohkhlaa
open Go.RowKit

/-- WHAT THE WALK IS TOLD OF A SLICE OF INTEGERS THAT CAME IN: it is nil; or it leads to a row of 'cap' cells, the numbers 'zs'. -/
def IsRow (k : IntKind) (w : World) (a : Option Addr) (len cap : Nat) (zs : List Int) : Prop :=
  (a = none ∧ len = 0 ∧ cap = 0 ∧ zs = []) ∨
  ∃ x, a = some x ∧ len ≤ cap ∧ cap ≤ maxLen ∧ zs.length = cap ∧ (∀ i, i < zs.length → w.cell? (x.add i) = some (.int k (zs.getD i 0))) ∧ ∀ n ∈ zs, (Lit.int k n).wf = true

theorem Try.info5 : (Try.prog.info? 5).map (fun i => (i.zero, i.size, i.bytes)) = some (some (.int .u8 0), 1, 1) := by kernel_rfl

/-- The cells of a copy of which k bytes are done. -/
def half (zs : List Int) (len k : Nat) : List Value := (zs.take k).map (Value.int .u8) ++ List.replicate (len - k) (.int .u8 0)

theorem half_zero (zs : List Int) (len : Nat) : half zs len 0 = List.replicate len (.int .u8 0) := by simp [half]
theorem half_full (zs : List Int) (len : Nat) : half zs len len = (zs.take len).map (Value.int .u8) := by simp [half]
theorem half_step (zs : List Int) (len k : Nat) (hk : k < len) (hz : len ≤ zs.length) : (half zs len k).set k (.int .u8 (zs[k]?.getD 0)) = half zs len (k + 1) := by
  have h1 : k < zs.length := by omega
  have e1 : len - k = (len - (k + 1)) + 1 := by omega
  unfold half
  rw [List.set_append_right _ _ (by simp; omega), List.length_map, List.length_take, Nat.min_eq_left (by omega), Nat.sub_self, e1, List.replicate_succ, List.set_cons_zero,
    List.take_succ_eq_append_getElem h1, List.map_append]
  simp [h1]
theorem half_len (zs : List Int) (len k : Nat) (hk : k ≤ len) (hz : len ≤ zs.length) : (half zs len k).length = len := by
  simp [half]; omega

theorem wf_u8 {n : Int} (h : (Lit.int .u8 n).wf = true) : 0 ≤ n ∧ n ≤ 255 := by
  have h1 : IntKind.u8.min = 0 := by decide
  have h2 : IntKind.u8.max = 255 := by decide
  simpa [Lit.wf, h1, h2] using h

end Go.Proofs.Ytgmddookohkhlaa

/- Whether two rows of bytes are alike, as the law's own helper finds it: two rows that read as one list are. -/
namespace Go.Proofs.Ytgmddookohkhlaa
open Go.RowKit

/-- A slice that came in reads on as it did where nothing old has turned. -/
theorem IsRow.later {k : IntKind} {w w' : World} {a : Option Addr} {len cap : Nat} {zs : List Int} (h : IsRow k w a len cap zs) (hb : Below w.heap.size w w') : IsRow k w' a len cap zs := by
  rcases h with h | ⟨x, h1, h2, h3, h4, h5, h6⟩
  · exact .inl h
  · exact .inr ⟨x, h1, h2, h3, h4, fun i hi => cell_later hb (h5 i hi), h6⟩

theorem IsRow.range {w : World} {a : Option Addr} {len cap : Nat} {zs : List Int} (h : IsRow .u8 w a len cap zs) (j : Nat) : 0 ≤ (zs.take len)[j]?.getD 0 ∧ (zs.take len)[j]?.getD 0 ≤ 255 := by
  rcases h with ⟨_, _, _, rfl⟩ | ⟨x, _, _, _, _, _, h6⟩
  · simp
  · by_cases hj : j < (zs.take len).length
    · rw [List.getElem?_eq_getElem hj, Option.getD_some]
      exact wf_u8 (h6 _ (List.mem_of_mem_take (List.getElem_mem hj)))
    · rw [List.getElem?_eq_none (by omega)]; simp

theorem IsRow.length {k : IntKind} {w : World} {a : Option Addr} {len cap : Nat} {zs : List Int} (h : IsRow k w a len cap zs) : (zs.take len).length = len := by
  rcases h with ⟨_, rfl, _, rfl⟩ | ⟨x, _, h2, _, h4, _, _⟩
  · rfl
  · simp; omega

/-- WHAT A READER IS TOLD OF A SLICE OF BYTES: its elements, nothing of its spare room. -/
def Rd (w : World) (a : Option Addr) (len : Nat) (xs : List Int) : Prop :=
  xs.length = len ∧ ∀ i, i < len → ∃ b off, a = some ⟨b, off, none⟩ ∧ w.cell? ⟨b, off + i, none⟩ = some (.int .u8 (xs.getD i 0))

theorem Rd.later {w w' : World} {a : Option Addr} {len : Nat} {xs : List Int} (h : Rd w a len xs) (hb : Below w.heap.size w w') : Rd w' a len xs :=
  ⟨h.1, fun i hi => by obtain ⟨b, off, h1, h2⟩ := h.2 i hi; exact ⟨b, off, h1, cell_later hb h2⟩⟩

/-- The cells of a row of bytes of the call's own. -/
theorem own_cells {w : World} {base g n c : Nat} {zs : List Int} (h : w.ownsRow base 5 1 (.slice (some ⟨g, 0, none⟩) n c) n (zs.map (Value.int .u8))) : ∀ i, i < n → w.cell? ⟨g, 0 + i, none⟩ = some (.int .u8 (zs.getD i 0)) := by
  intro i hi
  have hl : zs.length = n := by have := h.1; simpa using this
  rw [Nat.zero_add, h.cellAt i (by omega)]
  simp [hl, hi]

theorem own_lt {w : World} {base g n c : Nat} {zs : List Value} (h : w.ownsRow base 5 1 (.slice (some ⟨g, 0, none⟩) n c) n zs) : g < w.heap.size := by
  rcases h.2 with ⟨h', _⟩ | ⟨g', cap', cur, h', _, hg, _⟩
  · simp at h'
  · simp only [Value.slice.injEq, Option.some.injEq, Addr.mk.injEq, and_true, true_and] at h'
    obtain ⟨rfl, rfl⟩ := h'
    exact Nat.lt_of_not_le fun hn => by simp [Array.getElem?_eq_none hn] at hg

theorem IsRow.rd {w : World} {a : Option Addr} {len cap : Nat} {zs : List Int} (h : IsRow .u8 w a len cap zs) : Rd w a len (zs.take len) := by
  refine ⟨h.length, fun i hi => ?_⟩
  rcases h with ⟨_, h1, _⟩ | ⟨⟨b, off, spot⟩, rfl, hl, _, hz, hc, _⟩
  · omega
  · have hc0 := hc 0 (by omega)
    have hspot : spot = none := by simpa [Addr.add] using World.cell?_spot hc0
    subst hspot
    have hci := hc i (by omega)
    rw [Addr.add_lit] at hci
    exact ⟨b, off, rfl, by rw [hci]; simp [hi]⟩

theorem own_rd {w : World} {base g n c : Nat} {zs : List Int} (h : w.ownsRow base 5 1 (.slice (some ⟨g, 0, none⟩) n c) n (zs.map (Value.int .u8))) : Rd w (some ⟨g, 0, none⟩) n zs :=
  ⟨by have := h.1; simpa using this, fun i hi => ⟨g, 0, rfl, own_cells h i hi⟩⟩

theorem own_weak {w : World} {B B' n : Nat} {v : Value} {xs : List Value} (h : w.ownsRow B 5 1 v n xs) (hb : B' ≤ B) : w.ownsRow B' 5 1 v n xs := by
  refine ⟨h.1, ?_⟩
  rcases h.2 with h2 | ⟨g, cap, cur, h1, h2, r⟩
  · exact .inl h2
  · exact .inr ⟨g, cap, cur, h1, Nat.le_trans hb h2, r⟩

theorem below_drewN {B : Nat} {a w : World} (h : Below B a w) (q : Nat) : Below B a (w.drewN q) := by
  induction q generalizing w with
  | zero => exact h
  | succ q ih => exact (ih h).drew

end Go.Proofs.Ytgmddookohkhlaa

/- The cursor of a draw: what its reading of a byte, a number below another, an element of a list and a row of bytes keep; of what is drawn only that it is in its range. -/
namespace Go.Proofs.Ytgmddookohkhlaa
open Go.RowKit

theorem and255 (n : Int) : 0 ≤ bits .and .i64 n 255 ∧ bits .and .i64 n 255 ≤ 255 := by
  have h1 : (BitVec.ofInt 64 255).toNat = 2 ^ 8 - 1 := by decide
  have key : (BitVec.ofInt 64 n &&& BitVec.ofInt 64 255).toNat = (n % ((2 ^ 64 : Nat) : Int)).toNat % 2 ^ 8 := by
    rw [BitVec.toNat_and, BitVec.toNat_ofInt, h1, Nat.and_two_pow_sub_one_eq_mod]
  have e : bits .and .i64 n 255 = IntKind.i64.wrap ((BitVec.ofInt 64 n &&& BitVec.ofInt 64 255).toNat : Nat) := rfl
  rw [e, key, IntKind.wrap_i64]
  omega

theorem grownBy_trans {w w1 w2 : World} {r : Option Nat} (h : w.grownBy w1 r) (k : w1.grownBy w2 r) : w.grownBy w2 r :=
  ⟨k.os.trans h.os, k.tape.trans h.tape, k.output.trans h.output, Nat.le_trans h.size k.size, fun j hj hne => (k.block j (Nat.lt_of_lt_of_le hj h.size) hne).trans (h.block j hj hne)⟩

theorem grownBy_setCell (w : World) (p j : Nat) (u : Value) : w.grownBy (w.setCell ⟨p, j, none⟩ u) (some p) :=
  ⟨rfl, rfl, rfl, by simp, fun k _ hk => heap_setCell_other w ⟨p, j, none⟩ k u (fun e => hk (by simp [e]))⟩

theorem grownBy_drewN {w w1 : World} {r : Option Nat} (h : w.grownBy w1 r) (q : Nat) : w.grownBy (w1.drewN q) r := by
  induction q with
  | zero => exact h
  | succ q ih => exact ⟨ih.os, ih.tape, ih.output, ih.size, ih.block⟩

theorem heap_drewN (w : World) (q : Nat) : (w.drewN q).heap = w.heap := by
  induction q with
  | zero => rfl
  | succ q ih => exact ih

theorem IsRow.grown {k : IntKind} {w w' : World} {a : Option Addr} {len cap p : Nat} {zs : List Int} (h : IsRow k w a len cap zs) (hg : w.grownBy w' (some p)) (hne : ∀ x, a = some x → 0 < cap → x.block ≠ p) : IsRow k w' a len cap zs := by
  rcases h with h | ⟨x, h1, h2, h3, h4, h5, h6⟩
  · exact .inl h
  · refine .inr ⟨x, h1, h2, h3, h4, fun i hi => ?_, h6⟩
    have hb : (x.add i).block = x.block := by unfold Addr.add; split <;> rfl
    have hlt := World.block_lt_of_cell? _ _ (h5 i hi)
    rw [World.cell?_of_block (w := w) (hg.block _ hlt (by rw [hb]; simpa using hne x h1 (by omega)))]
    exact h5 i hi

theorem cur_one_new (w : World) (x : Value) (t : TypeId) : ∀ j u, [x][j]? = some u → (w.alloc (.cells #[x] t)).cell? ((⟨w.heap.size, 0, none⟩ : Addr).add j) = some u := by
  intro j u hj
  match j, hj with
  | 0, hj => simp at hj; subst hj; simp [Addr.add]

theorem cur_snoc_map (xs : List Int) (x : Int) : xs.map (Value.int .u8) ++ [Value.int .u8 x] = (xs ++ [x]).map (Value.int .u8) := by simp

end Go.Proofs.Ytgmddookohkhlaa

/- What every draw begins with: a new cursor; an element of a list of texts; and the law's limit. -/
namespace Go.Proofs.Ytgmddookohkhlaa
open Go.RowKit

/-- The cells of a list that the call has just laid. -/
theorem list_cells (w : World) (ns : List Int) (vs : Array Value) (t : TypeId) (h : vs = (ns.map (Value.int .i64)).toArray) : ∀ j, j < ns.length → (w.alloc (.cells vs t)).cell? ⟨w.heap.size, 0 + j, none⟩ = some (.int .i64 (ns.getD j 0)) := by
  intro j hj
  rw [World.cell?_alloc_at vs t w.heap.size (0 + j) rfl, h]
  simp [hj]

/-- The block of a slice that came in is none that is laid later. -/
theorem isRow_old {k : IntKind} {w : World} {a : Option Addr} {len cap : Nat} {zs : List Int} (hr : IsRow k w a len cap zs) : ∀ x, a = some x → 0 < cap → x.block ≠ w.heap.size := by
  intro x hx h0 e
  rcases hr with ⟨h1, _⟩ | ⟨y, h1, h2, _, h4, h5, _⟩
  · simp [h1] at hx
  · have hlt := World.block_lt_of_cell? _ _ (h5 0 (by omega))
    have hb : (y.add 0).block = y.block := by unfold Addr.add; split <;> rfl
    rw [hx] at h1
    cases h1
    omega

theorem grown_below {w w' : World} {B p : Nat} (h : w.grownBy w' (some p)) (hp : B ≤ p) (hB : B ≤ w.heap.size) : Below B w w' := (Below.refl _ w).grown h hB (fun k hk => by cases hk; exact hp)

/-- The cells of a list of texts that the call has just laid. -/
theorem list_cellsS (w : World) (ns : List ByteArray) (vs : Array Value) (t : TypeId) (h : vs = (ns.map Value.string).toArray) : ∀ j, j < ns.length → (w.alloc (.cells vs t)).cell? ⟨w.heap.size, 0 + j, none⟩ = some (.string (ns.getD j ⟨#[]⟩)) := by
  intro j hj
  rw [World.cell?_alloc_at vs t w.heap.size (0 + j) rfl, h]
  simp [hj]

theorem grown_set {w w2 : World} {p g j : Nat} {u : Value} (h : w.grownBy w2 (some p)) (hg : w.heap.size ≤ g) : w.grownBy (w2.setCell ⟨g, j, none⟩ u) (some p) :=
  ⟨h.os, h.tape, h.output, by simpa using h.size, fun k hk hne => (heap_setCell_other w2 ⟨g, j, none⟩ k u (fun e => by simp at e; omega)).trans (h.block k hk hne)⟩
end Go.Proofs.Ytgmddookohkhlaa

/- What the program's reading of a number comes to: its groups, its code, its number. -/
namespace Go.Proofs.Ytgmddookohkhlaa
open Go.RowKit

theorem ret3 {a b a' b' : Int} {c c' : Bool} (h1 : a = a') (h2 : b = b') (h3 : c = c') : Ending.returned (.tuple #[.int .i64 a, .int .i64 b, .bool c]) = .returned (.tuple #[.int .i64 a', .int .i64 b', .bool c']) := by rw [h1, h2, h3]

theorem ret1 {a b : Int} (h : a = b) : Ending.returned (.int .i64 a) = .returned (.int .i64 b) := by rw [h]

theorem coded_odd (c : Int) (h0 : 0 ≤ c) (h1 : c ≤ 4398046511104) (h : c % 2 = 1) : wrap64 (-(c + 1).tdiv 2) = dec c := by
  have e : -(c + 1).tdiv 2 = dec c := by
    unfold dec
    rw [if_pos h, Int.tdiv_eq_ediv_of_nonneg (by omega)]
    omega
  rw [e, IntWalk.wrap64_in _ (by unfold dec; rw [if_pos h]; omega)]

/-- The three results of a reading, as the call hands them back. -/
def three (r : Int × Int × Bool) : Value := .tuple #[.int .i64 r.1, .int .i64 r.2.1, .bool r.2.2]

theorem ret3' {a b : Int} {c : Bool} {r : Int × Int × Bool} (h : r = (a, b, c)) : Ending.returned (.tuple #[.int .i64 a, .int .i64 b, .bool c]) = .returned (three r) := by subst h; rfl

end Go.Proofs.Ytgmddookohkhlaa

/- What the model's reading of a number comes to: the same as the program's. -/
namespace Go.Proofs.Ytgmddookohkhlaa
open Go.RowKit

set_option maxHeartbeats 400000 in
theorem l1In_any (x : Int) (w : World) :
    Calls Try.prog 28 #[.int .i64 x, .int .i64 (-1000000000000), .int .i64 1000000000000] w fun e w' => e = .returned (.bool (decide (-1000000000000 ≤ x ∧ x ≤ 1000000000000))) ∧ w' = w := by
  by_cases h1 : -1000000000000 ≤ x
  · by_cases h2 : x ≤ 1000000000000
    · have hd : decide (-1000000000000 ≤ x ∧ x ≤ 1000000000000) = true := by simp; omega
      rw [hd]
      go_enter Try.func28, Try.ntmps28
      go_wp2
      go_ret
      exact ⟨rfl, rfl⟩
    · have hd : decide (-1000000000000 ≤ x ∧ x ≤ 1000000000000) = false := by simp; omega
      rw [hd]
      go_enter Try.func28, Try.ntmps28
      go_wp2
      go_ret
      exact ⟨rfl, rfl⟩
  · have hd : decide (-1000000000000 ≤ x ∧ x ≤ 1000000000000) = false := by simp; omega
    rw [hd]
    go_enter Try.func28, Try.ntmps28
    go_wp2
    go_ret
    exact ⟨rfl, rfl⟩

end Go.Proofs.Ytgmddookohkhlaa

/- What reading a text comes to, in the program and in the model: its size, then its bytes. -/
namespace Go.Proofs.Ytgmddookohkhlaa
open Go.RowKit

def getText (zs : List Int) (p : Int) : List Int × Int × Bool :=
  if (getNum zs p).2.2 = true ∧ 0 ≤ (getNum zs p).1 ∧ (getNum zs p).1 ≤ (zs.length : Int) - (getNum zs p).2.1 then
    ((zs.drop (getNum zs p).2.1.toNat).take (getNum zs p).1.toNat, (getNum zs p).2.1 + (getNum zs p).1, true) else ([], 0, false)

theorem scan_next (zs : List Int) (a : Nat) : ∀ f k, (scan zs a f k).2.2 = true → 0 < (scan zs a f k).2.1 ∧ (scan zs a f k).2.1 ≤ zs.length := by
  intro f
  induction f with
  | zero => intro k h; simp [scan] at h
  | succ f ih =>
    intro k h
    rw [scan] at h ⊢
    split
    · rename_i h1
      rw [if_pos h1] at h
      split
      · rename_i h2
        rw [if_pos h2] at h
        exact ih (k + 1) h
      · rename_i h2
        rw [if_neg h2] at h
        split
        · rename_i h3
          rw [if_pos h3] at h
          cases h
        · show 0 < ((a + k + 1 : Nat) : Int) ∧ ((a + k + 1 : Nat) : Int) ≤ (zs.length : Int)
          omega
    · rename_i h1
      rw [if_neg h1] at h
      cases h

theorem dec_bd (c : Int) (h0 : 0 ≤ c) (h : c ≤ 2000000000000) : -1000000000000 ≤ dec c ∧ dec c ≤ 1000000000000 := by unfold dec; split <;> omega

theorem getNum_bd (zs : List Int) (p : Int) : ((getNum zs p).2.2 = true → 0 < (getNum zs p).2.1 ∧ (getNum zs p).2.1 ≤ zs.length) ∧ -1000000000000 ≤ (getNum zs p).1 ∧ (getNum zs p).1 ≤ 1000000000000 := by
  unfold getNum
  split
  · have hs := scan_next zs p.toNat 6 0
    have hb := scan_bd zs p.toNat 6 0 (by omega)
    unfold fin
    split
    · rename_i h
      exact ⟨fun _ => hs h.1, dec_bd _ hb.1 h.2⟩
    · simp
  · simp

/-- The three results of reading a text. -/
def threeT (r : List Int × Int × Bool) : Value := .tuple #[.string (strOfNums r.1), .int .i64 r.2.1, .bool r.2.2]

theorem ret3t {s : ByteArray} {b : Int} {c : Bool} {r : List Int × Int × Bool} (h : r = (r.1, b, c)) (hs : s = strOfNums r.1) : Ending.returned (.tuple #[.string s, .int .i64 b, .bool c]) = .returned (threeT r) := by
  rw [h, hs]; rfl

end Go.Proofs.Ytgmddookohkhlaa
