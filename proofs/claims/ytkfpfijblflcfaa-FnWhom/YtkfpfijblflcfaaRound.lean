/- Plain facts: what is put comes back; cut by its last byte it does not. -/
import Derived.Test.YtkfpfijblflcfaaText
import Derived.Test.YtkfpfijblflcfaaTPut
namespace Go.Proofs.Ytkfpfijblflcfaa
open Go.RowKit

theorem at_of_drop {Z R : List Int} {j : Nat} {x : Int} (h : Z.drop j = x :: R) : j < Z.length ∧ Z[j]?.getD 0 = x ∧ Z.drop (j + 1) = R := by
  have hl : j < Z.length := by
    have := congrArg List.length h
    simp at this; omega
  rw [List.drop_eq_getElem_cons hl] at h
  simp only [List.cons.injEq] at h
  exact ⟨hl, by rw [List.getElem?_eq_getElem hl, Option.getD_some]; exact h.1, h.2⟩

/-- Reading off the groups of a code. -/
theorem scan_enc (Z R : List Int) (a : Nat) : ∀ (f k : Nat) (c : Int), 0 ≤ c → (0 < k → 0 < c) → (enc c).length ≤ f → Z.drop (a + k) = enc c ++ R →
    scan Z a f k = (grp Z a k + c * 2 ^ (7 * k), ((a + k + (enc c).length : Nat) : Int), true) := by
  intro f
  induction f with
  | zero => intro k c _ _ hf _; have := enc_len_pos c; omega
  | succ f ih =>
    intro k c h0 hk hf hd
    by_cases h : 127 < c
    · have he := enc_go c h
      rw [he] at hd hf
      obtain ⟨hl, hx, hr⟩ := at_of_drop (R := enc (c / 128) ++ R) (x := c % 128 + 128) (by simpa using hd)
      rw [scan, if_pos hl, hx, if_pos (by omega), ih (k + 1) (c / 128) (by omega) (by omega) (by simpa using hf) hr, he]
      have hp : (2 : Int) ^ (7 * (k + 1)) = 2 ^ (7 * k) * 128 := pow_succ7 k
      have hg : grp Z a (k + 1) = grp Z a k + (c % 128 + 128) % 128 * 2 ^ (7 * k) := by show grp Z a k + _ = _; rw [hx]
      rw [hg, hp]
      simp only [Prod.mk.injEq, List.length_cons, and_true]
      refine ⟨?_, by omega⟩
      have e1 : (c % 128 + 128) % 128 = c % 128 := by omega
      have e2 : c / 128 * (2 ^ (7 * k) * 128) = (c / 128 * 128) * 2 ^ (7 * k) := by rw [Int.mul_comm (2 ^ (7 * k)) 128, Int.mul_assoc]
      rw [e1, e2, Int.add_assoc, ← Int.add_mul]
      congr 2
      omega
    · have he := enc_end c (by omega)
      rw [he] at hd
      obtain ⟨hl, hx, hr⟩ := at_of_drop (R := R) (x := c) (by simpa using hd)
      rw [scan, if_pos hl, hx, if_neg h, if_neg (by omega), he]
      have hg : grp Z a (k + 1) = grp Z a k + c % 128 * 2 ^ (7 * k) := by show grp Z a k + _ = _; rw [hx]
      rw [hg, Int.emod_eq_of_lt h0 (by omega)]
      rfl

theorem scan_cut (Z : List Int) (a : Nat) : ∀ (f k : Nat) (c : Int), Z.drop (a + k) = (enc c).dropLast → (scan Z a f k).2.2 = false := by
  intro f
  induction f with
  | zero => intro k c _; rfl
  | succ f ih =>
    intro k c hd
    by_cases h : 127 < c
    · have he := enc_go c h
      have hne : enc (c / 128) ≠ [] := fun e => by have := enc_len_pos (c / 128); rw [e] at this; simp at this
      rw [he, List.dropLast_cons_of_ne_nil hne] at hd
      obtain ⟨hl, hx, hr⟩ := at_of_drop hd
      rw [scan, if_pos hl, hx, if_pos (by omega)]
      exact ih (k + 1) (c / 128) hr
    · rw [enc_end c (by omega)] at hd
      have : Z.length ≤ a + k := by have := congrArg List.length hd; simp at this; omega
      rw [scan, if_neg (by omega)]

theorem dec_code (N : Int) : dec (code N) = clamp N := by
  have := clamp_bd N
  unfold dec code
  split
  · rw [if_pos (by omega)]; omega
  · rw [if_neg (by omega)]; omega

/-- A number comes back. -/
theorem getNum_put (xs R : List Int) (N : Int) : getNum (xs ++ enc (code N) ++ R) xs.length = (clamp N, ((xs.length + (enc (code N)).length : Nat) : Int), true) := by
  have hc := code_bd N
  have hp := enc_len_pos (code N)
  have h6 := enc_len6 (code N) (by omega)
  unfold getNum
  rw [if_pos ⟨by omega, by simp; omega⟩, Int.toNat_natCast, scan_enc (xs ++ enc (code N) ++ R) R xs.length 6 0 (code N) hc.1 (by omega) h6 (by simp)]
  have e : grp (xs ++ enc (code N) ++ R) xs.length 0 + code N * 2 ^ (7 * 0) = code N := by simp [grp]
  rw [e]
  unfold fin
  rw [if_pos ⟨rfl, hc.2⟩, dec_code]
  rfl

/-- Cut by its last byte it does not. -/
theorem getNum_cut (xs : List Int) (N : Int) : (getNum ((xs ++ enc (code N)).dropLast) xs.length).2.2 = false := by
  have hne : enc (code N) ≠ [] := fun e => by have := enc_len_pos (code N); rw [e] at this; simp at this
  unfold getNum
  split
  · rw [Int.toNat_natCast]
    have := scan_cut ((xs ++ enc (code N)).dropLast) xs.length 6 0 (code N) (by rw [List.dropLast_append_of_ne_nil hne]; simp)
    unfold fin
    rw [if_neg (by rw [this]; simp)]
  · rfl

theorem strOfNums_nums (s : ByteArray) : strOfNums (nums s) = s := by
  have h : ((nums s).map fun n => UInt8.ofNat n.toNat) = s.data.toList := by
    rw [nums, List.map_map]
    conv => rhs; rw [← List.map_id s.data.toList]
    apply List.map_congr_left
    intro b _
    simp
  unfold strOfNums
  rw [h]

/-- A text comes back. -/
theorem getText_put (xs : List Int) (s : ByteArray) (hs : s.size ≤ 1000000000000) : getText (xs ++ put s) xs.length = (nums s, ((xs ++ put s).length : Int), true) := by
  have hn := getNum_put xs (nums s) s.size
  have hcl : clamp s.size = s.size := by unfold clamp; rw [if_neg (by omega), if_neg (by omega)]
  rw [hcl] at hn
  have e : xs ++ put s = xs ++ enc (code s.size) ++ nums s := by rw [put, List.append_assoc]
  have hl := nums_length s
  unfold getText
  rw [e, hn]
  simp only [Int.toNat_natCast]
  rw [if_pos ⟨trivial, by omega, by simp; omega⟩]
  have ed : (xs ++ enc (code s.size) ++ nums s).drop (xs.length + (enc (code s.size)).length) = nums s := by
    rw [← List.length_append, List.drop_left]
  rw [ed, List.take_of_length_le (by omega)]
  simp [hl]
  omega

end Go.Proofs.Ytkfpfijblflcfaa
