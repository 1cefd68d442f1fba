/- What the program's reading of a number comes to: its groups, its code, its number. -/
import Derived.Test.YthjmbbpakidkdaaBytes
namespace Go.Proofs.Ythjmbbpakidkdaa
open Go.RowKit

theorem ret3 {a b a' b' : Int} {c c' : Bool} (h1 : a = a') (h2 : b = b') (h3 : c = c') : Ending.returned (.tuple #[.int .i64 a, .int .i64 b, .bool c]) = .returned (.tuple #[.int .i64 a', .int .i64 b', .bool c']) := by rw [h1, h2, h3]

set_option maxHeartbeats 400000 in
theorem readGroups_in (b off n cap a : Nat) (zs : List Int) (w : World) (hz : zs.length = n) (hm : n ≤ 4611686018427387904) (ha : a < n)
    (hc : ∀ i, i < n → w.cell? ⟨b, off + i, none⟩ = some (.int .u8 (zs.getD i 0))) (hr : ∀ j : Nat, 0 ≤ zs[j]?.getD 0 ∧ zs[j]?.getD 0 ≤ 255) :
    Calls Try.prog 211 #[.slice (some ⟨b, off, none⟩) n cap, .int .i64 a] w fun e w' =>
      e = .returned (.tuple #[.int .i64 (scan zs a 6 0).1, .int .i64 (scan zs a 6 0).2.1, .bool (scan zs a 6 0).2.2]) ∧ w' = w := by
  have hd : decide ((n : Int) ≤ (a : Int)) = false := by simp; omega
  have hd0 : decide ((a : Int) < 0) = false := by simp
  go_enter Try.func211, Try.ntmps211
  go_wp2
  all_goals
    go_loop [7, 9] (fun c i => ∃ k : Nat, k ≤ 6 ∧ a + k ≤ n ∧ i = .int .i64 ((a + k : Nat) : Int) ∧ c = .int .i64 (grp zs a k) ∧ Hid (scan zs a 6 0 = scan zs a (6 - k) k)) (fun _ i => n - (intOf i).toNat)
    case atStart => exact ⟨0, by omega, by omega, rfl, rfl, rfl⟩
    case round =>
      obtain ⟨k, hk, hkn, rfl, rfl, HD⟩ := hrel
      have hg := grp_bd zs a k
      have hp := pow_le6 k hk
      obtain ⟨x, hx⟩ : ∃ x, x = zs[a + k]?.getD 0 := ⟨_, rfl⟩
      have hrk := hr (a + k)
      rw [← hx] at hrk
      obtain ⟨hx0, hx1⟩ := hrk
      by_cases hlt : a + k < n ∧ k < 6
      · obtain ⟨hl1, hl2⟩ := hlt
        have hcell : w.cell? ⟨b, off + (a + k), none⟩ = some (.int .u8 x) := by have := hc _ hl1; rw [hx]; simpa using this
        have HX : Hid (x = zs[a + k]?.getD 0) := hx
        clear hc hr hx
        go_wp2
        · have hb : 127 < x := by assumption
          go_round
          case rel => exact ⟨k + 1, by omega, by omega, by go_num, by rw [grp_step zs a k x hl2 HX.out], HD.out.trans (scan_go zs a k x hl2 (by omega) HX.out hb)⟩
          case measure => simp [intOf]; omega
        · have hb : x ≤ 127 := by assumption
          have h0 : x % 128 = 0 := by assumption
          have hk0 : (a : Int) < ↑a + ↑k := by assumption
          have hY := HD.out.trans (scan_zero zs a k x hl2 (by omega) HX.out (by omega) (by omega))
          go_ret3
          exact ⟨ret3 (by rw [hY]) (by rw [hY]) (by rw [hY]), rfl⟩
        · have hb : x ≤ 127 := by assumption
          have h0 : x % 128 = 0 := by assumption
          have hk0 : (a : Int) + ↑k ≤ ↑a := by assumption
          have hY := HD.out.trans (scan_yes zs a k x hl2 (by omega) HX.out (by omega) (by omega))
          have hS := grp_step zs a k x hl2 HX.out
          rw [h0, Int.zero_mul] at hS
          go_ret3
          exact ⟨ret3 (by rw [hY]; exact hS) (by rw [hY]; rfl) (by rw [hY]), rfl⟩
        · have hb : x ≤ 127 := by assumption
          have h0 : ¬ x % 128 = 0 := by assumption
          have hY := HD.out.trans (scan_yes zs a k x hl2 (by omega) HX.out (by omega) (by omega))
          have hS := grp_step zs a k x hl2 HX.out
          go_ret3
          exact ⟨ret3 (by rw [hY]; exact hS) (by rw [hY]; rfl) (by rw [hY]), rfl⟩
      · clear hx hc hr
        go_wp2
        have hY := HD.out.trans (scan_end zs a k hk (by omega))
        go_ret3
        exact ⟨ret3 (by rw [hY]) (by rw [hY]) (by rw [hY]), rfl⟩

set_option maxHeartbeats 400000 in
theorem readGroups_out (v : Option Addr) (n cap : Nat) (p : Int) (w : World) (_hm : n ≤ 4611686018427387904) (h : p < 0 ∨ (n : Int) ≤ p) :
    Calls Try.prog 211 #[.slice v n cap, .int .i64 p] w fun e w' => e = .returned (.tuple #[.int .i64 0, .int .i64 0, .bool false]) ∧ w' = w := by
  by_cases h0 : p < 0
  · go_enter Try.func211, Try.ntmps211
    go_wp2
    go_ret3
    exact ⟨rfl, rfl⟩
  · have h1 : (n : Int) ≤ p := by omega
    go_enter Try.func211, Try.ntmps211
    go_wp2
    go_ret3
    exact ⟨rfl, rfl⟩

theorem ret1 {a b : Int} (h : a = b) : Ending.returned (.int .i64 a) = .returned (.int .i64 b) := by rw [h]

theorem coded_odd (c : Int) (h0 : 0 ≤ c) (h1 : c ≤ 4398046511104) (h : c % 2 = 1) : wrap64 (-(c + 1).tdiv 2) = dec c := by
  have e : -(c + 1).tdiv 2 = dec c := by
    unfold dec
    rw [if_pos h, Int.tdiv_eq_ediv_of_nonneg (by omega)]
    omega
  rw [e, IntWalk.wrap64_in _ (by unfold dec; rw [if_pos h]; omega)]

set_option maxHeartbeats 400000 in
theorem codedNum_any (c : Int) (w : World) (h0 : 0 ≤ c) (h1 : c ≤ 4398046511104) :
    Calls Try.prog 212 #[.int .i64 c] w fun e w' => e = .returned (.int .i64 (dec c)) ∧ w' = w := by
  by_cases h : c % 2 = 1
  · have hd : Hid (wrap64 (-(c + 1).tdiv 2) = dec c) := coded_odd c h0 h1 h
    have hb : (c % 2 == 1) = true := by simp [h]
    go_enter Try.func212, Try.ntmps212
    go_wp2
    go_ret
    exact ⟨ret1 hd.out, rfl⟩
  · have hb : (c % 2 == 1) = false := by simp [h]
    have hd : Hid (c / 2 = dec c) := by unfold dec; rw [if_neg h]; exact rfl
    go_enter Try.func212, Try.ntmps212
    go_wp2
    go_ret
    exact ⟨ret1 hd.out, rfl⟩

/-- The three results of a reading, as the call hands them back. -/
def three (r : Int × Int × Bool) : Value := .tuple #[.int .i64 r.1, .int .i64 r.2.1, .bool r.2.2]

theorem ret3' {a b : Int} {c : Bool} {r : Int × Int × Bool} (h : r = (a, b, c)) : Ending.returned (.tuple #[.int .i64 a, .int .i64 b, .bool c]) = .returned (three r) := by subst h; rfl

set_option maxHeartbeats 400000 in
theorem implGetNum_any (b off n cap : Nat) (p : Int) (zs : List Int) (w : World) (hz : zs.length = n) (hm : n ≤ 4611686018427387904)
    (hc : ∀ i, i < n → w.cell? ⟨b, off + i, none⟩ = some (.int .u8 (zs.getD i 0))) (hr : ∀ j : Nat, 0 ≤ zs[j]?.getD 0 ∧ zs[j]?.getD 0 ≤ 255) :
    Calls Try.prog 198 #[.slice (some ⟨b, off, none⟩) n cap, .int .i64 p] w fun e w' => e = .returned (three (getNum zs p)) ∧ w' = w := by
  by_cases hp : 0 ≤ p ∧ p < n
  · obtain ⟨a, rfl⟩ := Int.eq_ofNat_of_zero_le hp.1
    have hb := scan_bd zs a 6 0 (by omega)
    have HG : Hid (getNum zs a = fin (scan zs a 6 0)) := by unfold getNum; rw [if_pos (by omega)]; exact rfl
    have hC := readGroups_in b off n cap a zs w hz hm (by omega) hc hr
    generalize scan zs a 6 0 = r at *
    obtain ⟨c, nx, ok⟩ := r
    obtain ⟨hb0, hb1, hb2⟩ := hb
    simp only at hb0 hb1 hb2 hC
    clear hc hr
    by_cases hok : ok = true ∧ c ≤ 2000000000000
    · obtain ⟨rfl, hle⟩ := hok
      have HF : Hid (getNum zs a = (dec c, nx, true)) := by have := HG.out; rw [fin, if_pos ⟨rfl, hle⟩] at this; exact this
      clear HG hb2
      go_enter Try.func198, Try.ntmps198
      go_wp2_with fail
      refine hC.mono ?_
      clear hC
      rintro e w' ⟨rfl, rfl⟩
      go_wp2_with (go_at_call 212; refine (codedNum_any _ _ (by omega) (by omega)).mono ?_; rintro e w' ⟨rfl, rfl⟩)
      go_ret3
      exact ⟨ret3' HF.out, rfl⟩
    · have HF : Hid (getNum zs a = (0, 0, false)) := by have := HG.out; rw [fin, if_neg hok] at this; exact this
      clear HG hb2
      cases ok with
      | false =>
        go_enter Try.func198, Try.ntmps198
        go_wp2_with fail
        refine hC.mono ?_
        clear hC
        rintro e w' ⟨rfl, rfl⟩
        go_wp2
        go_ret3
        exact ⟨ret3' HF.out, rfl⟩
      | true =>
        have hgt : 2000000000000 < c := by simp at hok; omega
        go_enter Try.func198, Try.ntmps198
        go_wp2_with fail
        refine hC.mono ?_
        clear hC
        rintro e w' ⟨rfl, rfl⟩
        go_wp2
        go_ret3
        exact ⟨ret3' HF.out, rfl⟩
  · have HF : Hid (getNum zs p = (0, 0, false)) := by unfold getNum; rw [if_neg (by omega)]; exact rfl
    have hC := readGroups_out (some ⟨b, off, none⟩) n cap p w hm (by omega)
    clear hc hr
    go_enter Try.func198, Try.ntmps198
    go_wp2_with fail
    refine hC.mono ?_
    clear hC
    rintro e w' ⟨rfl, rfl⟩
    go_wp2
    go_ret3
    exact ⟨ret3' HF.out, rfl⟩

end Go.Proofs.Ythjmbbpakidkdaa
