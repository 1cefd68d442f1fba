/- What the model's reading of a number comes to: the same as the program's. -/
import Derived.Test.YthjmbbpakidkdaaRead
namespace Go.Proofs.Ythjmbbpakidkdaa
open Go.RowKit

set_option maxHeartbeats 400000 in
theorem l1In_any (x : Int) (w : World) :
    Calls Try.prog 99 #[.int .i64 x, .int .i64 (-1000000000000), .int .i64 1000000000000] w fun e w' => e = .returned (.bool (decide (-1000000000000 ≤ x ∧ x ≤ 1000000000000))) ∧ w' = w := by
  by_cases h1 : -1000000000000 ≤ x
  · by_cases h2 : x ≤ 1000000000000
    · have hd : decide (-1000000000000 ≤ x ∧ x ≤ 1000000000000) = true := by simp; omega
      rw [hd]
      go_enter Try.func99, Try.ntmps99
      go_wp2
      go_ret
      exact ⟨rfl, rfl⟩
    · have hd : decide (-1000000000000 ≤ x ∧ x ≤ 1000000000000) = false := by simp; omega
      rw [hd]
      go_enter Try.func99, Try.ntmps99
      go_wp2
      go_ret
      exact ⟨rfl, rfl⟩
  · have hd : decide (-1000000000000 ≤ x ∧ x ≤ 1000000000000) = false := by simp; omega
    rw [hd]
    go_enter Try.func99, Try.ntmps99
    go_wp2
    go_ret
    exact ⟨rfl, rfl⟩

set_option maxHeartbeats 1600000 in
theorem specGetNum_in (b off n cap a : Nat) (zs : List Int) (w : World) (hz : zs.length = n) (hm : n ≤ 4611686018427387904) (ha : a < n)
    (hc : ∀ i, i < n → w.cell? ⟨b, off + i, none⟩ = some (.int .u8 (zs.getD i 0))) (hr : ∀ j : Nat, 0 ≤ zs[j]?.getD 0 ∧ zs[j]?.getD 0 ≤ 255) :
    Calls Try.prog 130 #[.slice (some ⟨b, off, none⟩) n cap, .int .i64 a] w fun e w' => e = .returned (three (fin (scan zs a 6 0))) ∧ w' = w := by
  go_enter Try.func130, Try.ntmps130
  go_wp2
  go_loop [7, 8] (fun m i => ∃ k : Nat, k ≤ 6 ∧ a + k ≤ n ∧ i = .int .i64 (k : Int) ∧ m = .int .i64 (grp zs a k) ∧ Hid (scan zs a 6 0 = scan zs a (6 - k) k)) (fun _ i => 6 - (intOf i).toNat)
  case atStart => exact ⟨0, by omega, by omega, rfl, rfl, rfl⟩
  case round =>
    obtain ⟨k, hk, hkn, rfl, rfl, HD⟩ := hrel
    have hg := grp_bd zs a k
    have hp := pow_le6 k hk
    obtain ⟨x, hx⟩ : ∃ x, x = zs[a + k]?.getD 0 := ⟨_, rfl⟩
    have hrk := hr (a + k)
    rw [← hx] at hrk
    obtain ⟨hx0, hx1⟩ := hrk
    by_cases hlt : a + k < n ∧ k < 6
    · obtain ⟨hl1, hl2⟩ := hlt
      have hcell : w.cell? ⟨b, off + (a + k), none⟩ = some (.int .u8 x) := by have := hc _ hl1; rw [hx]; simpa using this
      have HX : Hid (x = zs[a + k]?.getD 0) := hx
      have hm127 := i64_and127 x
      have hor := or_step zs a k x hl2 hx
      have hgs := grp_bd zs a (k + 1)
      have hps := pow_le6 (k + 1) (by omega)
      obtain ⟨G, hG⟩ : ∃ G, G = grp zs a (k + 1) := ⟨_, rfl⟩
      rw [← hG] at hor hgs
      have HG : Hid (G = grp zs a (k + 1)) := hG
      have hG0 : 0 ≤ G := hgs.1
      have hG1 : G ≤ 4398046511104 := by omega
      have hand := and1 G
      clear hc hr hx hG hgs hps
      by_cases hb : 127 < x
      · go_wp2_with fail
        go_round
        case rel => exact ⟨k + 1, by omega, by omega, by go_num, by rw [HG.out], HD.out.trans (scan_go zs a k x hl2 (by omega) HX.out hb)⟩
        case measure => simp [intOf]; omega
      · by_cases hz0 : x = 0 ∧ 0 < k
        · have HY : Hid (fin (scan zs a 6 0) = (0, 0, false)) := by rw [HD.out, scan_zero zs a k x hl2 (by omega) HX.out hz0.1 hz0.2]; exact rfl
          have hk0 : 0 < k := hz0.2
          have hxz : (x == 0) = true := by simp [hz0.1]
          clear hz0
          by_cases hpar : (G % 2 == 1) = true
          · go_wp2_with fail
            go_ret3
            exact ⟨ret3' HY.out, rfl⟩
          · have hpar' : (G % 2 == 1) = false := by simpa using hpar
            clear hpar
            go_wp2_with fail
            go_ret3
            exact ⟨ret3' HY.out, rfl⟩
        · have HY : Hid (scan zs a 6 0 = (G, (a : Int) + k + 1, true)) := by rw [HG.out]; exact HD.out.trans (scan_yes zs a k x hl2 (by omega) HX.out (by omega) (by omega))
          have hk2 : (0 < k ∧ (x == 0) = false) ∨ ¬ 0 < k := by
            by_cases h0 : 0 < k
            · exact .inl ⟨h0, by simp; omega⟩
            · exact .inr h0
          clear hz0 HD HX HG
          rcases hk2 with ⟨hk0, hxz⟩ | hk0
          all_goals
            by_cases hpar : (G % 2 == 1) = true
            · by_cases hle : G ≤ 2000000000000
              · have ho : G % 2 = 1 := by simpa using hpar
                have hL := l1In_any (-(G / 2) - 1) w
                rw [show decide (-1000000000000 ≤ -(G / 2) - 1 ∧ -(G / 2) - 1 ≤ 1000000000000) = true from by simp; omega] at hL
                clear ho
                have HF : Hid (fin (scan zs a 6 0) = (-(G / 2) - 1, (a : Int) + k + 1, true)) := by rw [HY.out, fin_odd hle (by simpa using hpar)]; exact rfl
                go_wp2_with fail
                refine hL.mono ?_
                clear hL
                rintro e w' ⟨rfl, rfl⟩
                go_wp2_with fail
                go_ret3
                exact ⟨ret3' HF.out, rfl⟩
              · have ho : G % 2 = 1 := by simpa using hpar
                have hL := l1In_any (-(G / 2) - 1) w
                rw [show decide (-1000000000000 ≤ -(G / 2) - 1 ∧ -(G / 2) - 1 ≤ 1000000000000) = false from by simp; omega] at hL
                have HF : Hid (fin (scan zs a 6 0) = (0, 0, false)) := by rw [HY.out, fin_no (by omega)]; exact rfl
                clear ho
                go_wp2_with fail
                refine hL.mono ?_
                clear hL
                rintro e w' ⟨rfl, rfl⟩
                go_wp2_with fail
                go_ret3
                exact ⟨ret3' HF.out, rfl⟩
            · have hpar' : (G % 2 == 1) = false := by simpa using hpar
              have ho : ¬ G % 2 = 1 := by simpa using hpar
              by_cases hle : G ≤ 2000000000000
              · have hL := l1In_any (G / 2) w
                rw [show decide (-1000000000000 ≤ G / 2 ∧ G / 2 ≤ 1000000000000) = true from by simp; omega] at hL
                have HF : Hid (fin (scan zs a 6 0) = (G / 2, (a : Int) + k + 1, true)) := by rw [HY.out, fin_even hle ho]; exact rfl
                clear ho hpar
                go_wp2_with fail
                refine hL.mono ?_
                clear hL
                rintro e w' ⟨rfl, rfl⟩
                go_wp2_with fail
                go_ret3
                exact ⟨ret3' HF.out, rfl⟩
              · have hL := l1In_any (G / 2) w
                rw [show decide (-1000000000000 ≤ G / 2 ∧ G / 2 ≤ 1000000000000) = false from by simp; omega] at hL
                have HF : Hid (fin (scan zs a 6 0) = (0, 0, false)) := by rw [HY.out, fin_no (by omega)]; exact rfl
                clear ho hpar
                go_wp2_with fail
                refine hL.mono ?_
                clear hL
                rintro e w' ⟨rfl, rfl⟩
                go_wp2_with fail
                go_ret3
                exact ⟨ret3' HF.out, rfl⟩
    · have HY : Hid (fin (scan zs a 6 0) = (0, 0, false)) := by rw [HD.out, scan_end zs a k hk (by omega)]; exact rfl
      clear hx hc hr
      go_wp2
      all_goals
        go_ret3
        exact ⟨ret3' HY.out, rfl⟩

set_option maxHeartbeats 400000 in
theorem specGetNum_out (v : Option Addr) (n cap : Nat) (p : Int) (w : World) (_hm : n ≤ 4611686018427387904) (h : p < 0 ∨ (n : Int) ≤ p) :
    Calls Try.prog 130 #[.slice v n cap, .int .i64 p] w fun e w' => e = .returned (.tuple #[.int .i64 0, .int .i64 0, .bool false]) ∧ w' = w := by
  by_cases h0 : p < 0
  · have h0' : ¬ 0 ≤ p := by omega
    go_enter Try.func130, Try.ntmps130
    go_wp2
    refine wp_loop_rounds 1 ?_
    rw [rounds_succ]
    go_wp2
    go_ret3
    exact ⟨rfl, rfl⟩
  · have h1 : (n : Int) ≤ p := by omega
    have h1' : ¬ p < (n : Int) := by omega
    have h0' : 0 ≤ p := by omega
    clear h
    go_enter Try.func130, Try.ntmps130
    go_wp2
    refine wp_loop_rounds 1 ?_
    rw [rounds_succ]
    go_wp2
    go_ret3
    exact ⟨rfl, rfl⟩

theorem specGetNum_any (b off n cap : Nat) (p : Int) (zs : List Int) (w : World) (hz : zs.length = n) (hm : n ≤ 4611686018427387904)
    (hc : ∀ i, i < n → w.cell? ⟨b, off + i, none⟩ = some (.int .u8 (zs.getD i 0))) (hr : ∀ j : Nat, 0 ≤ zs[j]?.getD 0 ∧ zs[j]?.getD 0 ≤ 255) :
    Calls Try.prog 130 #[.slice (some ⟨b, off, none⟩) n cap, .int .i64 p] w fun e w' => e = .returned (three (getNum zs p)) ∧ w' = w := by
  by_cases hp : 0 ≤ p ∧ p < n
  · obtain ⟨a, rfl⟩ := Int.eq_ofNat_of_zero_le hp.1
    rw [show getNum zs a = fin (scan zs a 6 0) from by unfold getNum; rw [if_pos (by omega)]; rfl]
    exact specGetNum_in b off n cap a zs w hz hm (by omega) hc hr
  · rw [show getNum zs p = (0, 0, false) from by unfold getNum; rw [if_neg (by omega)]]
    exact specGetNum_out _ n cap p w hm (by omega)

end Go.Proofs.Ythjmbbpakidkdaa
