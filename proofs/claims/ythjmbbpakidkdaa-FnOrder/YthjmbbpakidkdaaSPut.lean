/- What the model's putting of a number comes to: the same bytes as the program's. -/
import Derived.Test.YthjmbbpakidkdaaMark
namespace Go.Proofs.Ythjmbbpakidkdaa
open Go.RowKit

theorem code_hi {n : Int} (h : 1000000000000 < n) : code n = 2000000000000 := by
  have : clamp n = 1000000000000 := by unfold clamp; rw [if_pos h]
  unfold code; rw [this]; rfl
theorem code_lo {n : Int} (h : n < -1000000000000) : code n = 1999999999999 := by
  have : clamp n = -1000000000000 := by unfold clamp; rw [if_neg (by omega), if_pos h]
  unfold code; rw [this]; rfl
theorem code_neg {n : Int} (h1 : -1000000000000 ≤ n) (h : n < 0) : code n = -2 * n - 1 := by
  have : clamp n = n := by unfold clamp; rw [if_neg (by omega), if_neg (by omega)]
  unfold code; rw [this, if_pos h]
theorem code_pos {n : Int} (h1 : n ≤ 1000000000000) (h : 0 ≤ n) : code n = 2 * n := by
  have : clamp n = n := by unfold clamp; rw [if_neg (by omega), if_neg (by omega)]
  unfold code; rw [this, if_neg (by omega)]

set_option maxRecDepth 100000 in
set_option maxHeartbeats 1000000 in
theorem specPutNum_any (b off n cap : Nat) (zs : List Int) (N : Int) (w : World) (hz : zs.length = n) (hm : n ≤ 1073741824) (hb : b < w.heap.size)
    (hc : ∀ i, i < n → w.cell? ⟨b, off + i, none⟩ = some (.int .u8 (zs.getD i 0))) (h0 : -9223372036854775808 ≤ N) (h1 : N ≤ 9223372036854775807) :
    Calls Try.prog 178 #[.slice (some ⟨b, off, none⟩) n cap, .int .i64 N] w fun e w' => ∃ v', e = .returned v' ∧
      w'.ownsRow w.heap.size 5 1 v' (zs ++ enc (code N)).length ((zs ++ enc (code N)).map (Value.int .u8)) ∧ Below w.heap.size w w' := by
  obtain ⟨i0, hi, hz0, hz1, hz2⟩ := info_parts Try.info5
  have hcb := code_bd N
  have hl6 := enc_len6 (code N) (by omega)
  have hnews : ∀ j u, (zs.map (Value.int .u8))[j]? = some u → (w.alloc (.cells #[] 5)).cell? ((⟨b, off, none⟩ : Addr).add j) = some u := by
    intro j u hj
    have hj' : j < n := by have := (List.getElem?_eq_some_iff.1 hj).1; simpa [hz] using this
    rw [Addr.add_lit, World.cell?_alloc_past _ b _ hb, hc j hj', ← hj]
    simp [hz, hj']
  have hlit : (w.alloc (.cells #[] 5)).ownsRow w.heap.size 5 1 (.slice (some ⟨w.heap.size, 0, none⟩) 0 0) 0 [] := World.ownsRow_lit w #[] 0 (Nat.le_refl _) (Nat.zero_le _) rfl
  have key : (1000000000000 < N ∧ code N = 2000000000000) ∨ (N < -1000000000000 ∧ code N = 1999999999999) ∨ ((-1000000000000 ≤ N ∧ N < 0) ∧ code N = -2 * N - 1) ∨ ((0 ≤ N ∧ N ≤ 1000000000000) ∧ code N = 2 * N) := by
    by_cases c1 : 1000000000000 < N
    · exact .inl ⟨c1, code_hi c1⟩
    · by_cases c2 : N < -1000000000000
      · exact .inr (.inl ⟨c2, code_lo c2⟩)
      · by_cases c3 : N < 0
        · exact .inr (.inr (.inl ⟨⟨by omega, c3⟩, code_neg (by omega) c3⟩))
        · exact .inr (.inr (.inr ⟨⟨by omega, by omega⟩, code_pos (by omega) (by omega)⟩))
  have HZ : Hid (zs.length = n) := hz
  obtain ⟨cs, hcs⟩ : ∃ cs, cs = zs.map (Value.int .u8) := ⟨_, rfl⟩
  have HCS : Hid (cs = zs.map (Value.int .u8)) := hcs
  have hcl : cs.length = n * 1 := by rw [hcs, List.length_map, hz, Nat.mul_one]
  have hone : ∀ u ∈ cs, u.oneCell' = true := by rw [hcs]; exact ints_oneCell _ _
  rw [← hcs] at hnews
  clear hcs hz hc
  rcases key with ⟨c1, hC⟩ | ⟨c1, hC⟩ | ⟨⟨c1, c2⟩, hC⟩ | ⟨⟨c1, c2⟩, hC⟩
  all_goals
    have HC : Hid (code N = _) := hC
    rw [hC] at hcb hl6
    clear hC
    obtain ⟨hcb0, hcb1⟩ := hcb
    go_enter Try.func178, Try.ntmps178
    go_wp2_with (at_builtin; refine wpList_append_own _ rfl (.tmp 7) (.tmp 8) 22 rfl w.heap.size 5 i0 (.int .u8 0) 1 1 Try.underlying22 hi hz0 hz1 hz2 rfl (by decide) _ _ _ rfl hlit ⟨b, off, none⟩ n cap cs rfl hcl hnews hone (by unfold maxLen; omega) (by omega) (by simp) ?_)
    intro v1 w1 hown1 hgrow1 _
    have hown : w1.ownsRow w.heap.size 5 1 v1 zs.length (zs.map (Value.int .u8)) := by rw [← HCS.out, HZ.out]; simpa using hown1
    have hbel : Below w.heap.size w w1 := ((Below.refl _ w).alloc (Nat.le_refl _) _).grown hgrow1 (by simp) (fun k hk => (hlit.lt k hk).1)
    clear hown1 hgrow1 hlit hnews hone
    go_wp2_with fail
    go_loopw [5, 6] (fun a c wr => ∃ (m : Int) (cur : List Int), 0 ≤ m ∧ m ≤ 2000000000000 ∧ c = .int .i64 m ∧ wr.ownsRow w.heap.size 5 1 a cur.length (cur.map (Value.int .u8)) ∧ Below w.heap.size w wr ∧ Hid (cur ++ enc m = zs ++ enc (code N))) (fun _ c _ => (intOf c).toNat)
    case atStart => exact ⟨_, zs, hcb0, hcb1, rfl, hown, hbel, by rw [HC.out]; exact rfl⟩
    case round =>
      obtain ⟨m, cur, hm0, hm1, rfl, hown1, hbel1, HE⟩ := hrel
      have hcl : cur.length ≤ 1073741824 + 6 := by
        have e := congrArg List.length HE.out
        have e1 := HZ.out
        have := enc_len_pos m
        rw [HC.out] at e
        simp only [List.length_append] at e; omega
      have hsz : w.heap.size ≤ wr.heap.size := hbel1.size
      clear hown hbel
      by_cases hgt : 127 < m
      · have hand := i64_and127 m
        have hor := or128 (m % 128) (by omega) (by omega)
        go_wp2_with (at_builtin; refine wpList_append_own _ rfl (.tmp 23) (.tmp 28) 22 rfl w.heap.size 5 i0 (.int .u8 0) 1 1 Try.underlying22 hi hz0 hz1 hz2 rfl (by decide) _ _ _ rfl (hown1.alloc _) ⟨wr.heap.size, 0, none⟩ 1 1 [.int .u8 (m % 128 + 128)] rfl rfl (one_new _ _ _) (by intro u hu; simp at hu; subst hu; rfl) (by unfold maxLen; omega) (by omega) (by simp; omega) ?_)
        intro v' w2 hown2 hgrow2 _
        rw [snoc_map] at hown2
        have hbel2 : Below w.heap.size w w2 := (hbel1.alloc hsz _).grown hgrow2 (by simp; omega) (fun k hk => (hown1.lt k hk).1)
        have hE2 : Hid ((cur ++ [m % 128 + 128]) ++ enc (m / 128) = zs ++ enc (code N)) := by have := HE.out; rw [enc_go m hgt] at this; show _ = _; rw [← this]; simp
        clear hown1 hgrow2 hbel1 HE hcb0 hcb1 hl6
        go_wp2
        go_roundw
        case rel => exact ⟨m / 128, cur ++ [m % 128 + 128], by omega, by omega, by go_num, by simpa using hown2, hbel2, hE2⟩
        case measure => simp [intOf]; omega
      · have hle : m ≤ 127 := by omega
        go_wp2_with (at_builtin; refine wpList_append_own _ rfl (.tmp 32) (.tmp 35) 22 rfl w.heap.size 5 i0 (.int .u8 0) 1 1 Try.underlying22 hi hz0 hz1 hz2 rfl (by decide) _ _ _ rfl (hown1.alloc _) ⟨wr.heap.size, 0, none⟩ 1 1 [.int .u8 m] rfl rfl (one_new _ _ _) (by intro u hu; simp at hu; subst hu; rfl) (by unfold maxLen; omega) (by omega) (by simp; omega) ?_)
        intro v' w2 hown2 hgrow2 _
        rw [snoc_map] at hown2
        have hbel2 : Below w.heap.size w w2 := (hbel1.alloc hsz _).grown hgrow2 (by simp; omega) (fun k hk => (hown1.lt k hk).1)
        have hE2 : Hid (cur ++ [m] = zs ++ enc (code N)) := by have := HE.out; rw [enc_end m hle] at this; exact this
        have hown3 : Hid (w2.ownsRow w.heap.size 5 1 v' (zs ++ enc (code N)).length ((zs ++ enc (code N)).map (Value.int .u8))) := by rw [← hE2.out]; show w2.ownsRow _ _ _ _ _ _; simpa using hown2
        clear hown1 hgrow2 hbel1 HE hcb0 hcb1 hl6 hE2 hown2
        go_wp2
        go_ret
        exact ⟨_, rfl, hown3.out, hbel2⟩

/-- 'specPutNum_any', the result's row told. -/
theorem specPutNum_row (b off n cap : Nat) (zs : List Int) (N : Int) (w : World) (hz : zs.length = n) (hm : n ≤ 1073741824) (hb : b < w.heap.size)
    (hc : ∀ i, i < n → w.cell? ⟨b, off + i, none⟩ = some (.int .u8 (zs.getD i 0))) (h0 : -9223372036854775808 ≤ N) (h1 : N ≤ 9223372036854775807)
    (ys : List Int) (hys : zs ++ enc (code N) = ys) (L : Nat) (hL : ys.length = L) :
    Calls Try.prog 178 #[.slice (some ⟨b, off, none⟩) n cap, .int .i64 N] w fun e w' => ∃ g c, e = .returned (.slice (some ⟨g, 0, none⟩) L c) ∧ w.heap.size ≤ g ∧
      w'.ownsRow w.heap.size 5 1 (.slice (some ⟨g, 0, none⟩) L c) L (ys.map (Value.int .u8)) ∧ Below w.heap.size w w' := by
  refine (specPutNum_any b off n cap zs N w hz hm hb hc h0 h1).mono ?_
  rintro e w' ⟨v', rfl, hown, hbel⟩
  rw [hys, hL] at hown
  have hp : 0 < L := by have := enc_len_pos (code N); rw [← hL, ← hys, List.length_append]; omega
  obtain ⟨g, c, rfl, hg⟩ := own_shape hown hp
  exact ⟨g, c, rfl, hg, hown, hbel⟩

end Go.Proofs.Ythjmbbpakidkdaa
