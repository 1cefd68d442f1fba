/- What reading a text comes to, in the program and in the model: its size, then its bytes. -/
import Derived.Test.YthjmbbpakidkdaaSpec
import Derived.Test.YthjmbbpakidkdaaEq
namespace Go.Proofs.Ythjmbbpakidkdaa
open Go.RowKit

def getText (zs : List Int) (p : Int) : List Int × Int × Bool :=
  if (getNum zs p).2.2 = true ∧ 0 ≤ (getNum zs p).1 ∧ (getNum zs p).1 ≤ (zs.length : Int) - (getNum zs p).2.1 then
    ((zs.drop (getNum zs p).2.1.toNat).take (getNum zs p).1.toNat, (getNum zs p).2.1 + (getNum zs p).1, true) else ([], 0, false)

theorem scan_next (zs : List Int) (a : Nat) : ∀ f k, (scan zs a f k).2.2 = true → 0 < (scan zs a f k).2.1 ∧ (scan zs a f k).2.1 ≤ zs.length := by
  intro f
  induction f with
  | zero => intro k h; simp [scan] at h
  | succ f ih =>
    intro k h
    rw [scan] at h ⊢
    split
    · rename_i h1
      rw [if_pos h1] at h
      split
      · rename_i h2
        rw [if_pos h2] at h
        exact ih (k + 1) h
      · rename_i h2
        rw [if_neg h2] at h
        split
        · rename_i h3
          rw [if_pos h3] at h
          cases h
        · show 0 < ((a + k + 1 : Nat) : Int) ∧ ((a + k + 1 : Nat) : Int) ≤ (zs.length : Int)
          omega
    · rename_i h1
      rw [if_neg h1] at h
      cases h

theorem dec_bd (c : Int) (h0 : 0 ≤ c) (h : c ≤ 2000000000000) : -1000000000000 ≤ dec c ∧ dec c ≤ 1000000000000 := by unfold dec; split <;> omega

theorem getNum_bd (zs : List Int) (p : Int) : ((getNum zs p).2.2 = true → 0 < (getNum zs p).2.1 ∧ (getNum zs p).2.1 ≤ zs.length) ∧ -1000000000000 ≤ (getNum zs p).1 ∧ (getNum zs p).1 ≤ 1000000000000 := by
  unfold getNum
  split
  · have hs := scan_next zs p.toNat 6 0
    have hb := scan_bd zs p.toNat 6 0 (by omega)
    unfold fin
    split
    · rename_i h
      exact ⟨fun _ => hs h.1, dec_bd _ hb.1 h.2⟩
    · simp
  · simp

/-- The three results of reading a text. -/
def threeT (r : List Int × Int × Bool) : Value := .tuple #[.string (strOfNums r.1), .int .i64 r.2.1, .bool r.2.2]

theorem ret3t {s : ByteArray} {b : Int} {c : Bool} {r : List Int × Int × Bool} (h : r = (r.1, b, c)) (hs : s = strOfNums r.1) : Ending.returned (.tuple #[.string s, .int .i64 b, .bool c]) = .returned (threeT r) := by
  rw [h, hs]; rfl

set_option maxRecDepth 100000 in
set_option maxHeartbeats 400000 in
theorem implGetText_any (b off n cap : Nat) (p : Int) (zs : List Int) (w : World) (hz : zs.length = n) (hm : n ≤ 1099511627776) (hcap : n ≤ cap) (hcm : cap ≤ 9223372036854775807)
    (hc : ∀ i, i < n → w.cell? ⟨b, off + i, none⟩ = some (.int .u8 (zs.getD i 0))) (hr : ∀ j : Nat, 0 ≤ zs[j]?.getD 0 ∧ zs[j]?.getD 0 ≤ 255) :
    Calls Try.prog 199 #[.slice (some ⟨b, off, none⟩) n cap, .int .i64 p] w fun e w' => e = .returned (threeT (getText zs p)) ∧ w' = w := by
  have hG := implGetNum_any b off n cap p zs w hz (by omega) hc hr
  have hbd := getNum_bd zs p
  obtain ⟨T, hT⟩ : ∃ T, getText zs p = T := ⟨_, rfl⟩
  rw [hT]
  unfold getText at hT
  generalize getNum zs p = r at *
  obtain ⟨x, nx, ok⟩ := r
  simp only [three] at hG
  simp only at hbd hT
  obtain ⟨hb1, hb2, hb3⟩ := hbd
  clear hr
  cases ok with
  | false =>
    have HT : Hid (T = ([], 0, false)) := by rw [← hT, if_neg (by simp)]; exact rfl
    clear hb1 hT hc
    go_enter Try.func199, Try.ntmps199
    go_wp2_with fail
    refine hG.mono ?_
    clear hG
    rintro e w' ⟨rfl, rfl⟩
    go_wp2
    go_ret3
    exact ⟨ret3t (by rw [HT.out]) (by rw [HT.out]; rfl), rfl⟩
  | true =>
    obtain ⟨hn0, hn1⟩ := hb1 rfl
    rw [hz] at hn1 hT
    by_cases hin : 0 ≤ x ∧ x ≤ (n : Int) - nx
    · obtain ⟨hx0, hx1⟩ := hin
      rw [if_pos ⟨rfl, hx0, hx1⟩] at hT
      obtain ⟨k, rfl⟩ := Int.eq_ofNat_of_zero_le hx0
      obtain ⟨a, rfl⟩ := Int.eq_ofNat_of_zero_le (Int.le_of_lt hn0)
      simp only [Int.toNat_natCast] at hT
      have HT : Hid (T = ((zs.drop a).take k, (a : Int) + k, true)) := hT.symm
      clear hb1 hT
      obtain ⟨S, hS⟩ : ∃ S, strOfNums ((zs.drop a).take k) = S := ⟨_, rfl⟩
      by_cases hca : cap = a
      · obtain rfl : k = 0 := by omega
        have hcv : (convert 22 9 (.slice (some ⟨b, off, none⟩) 0 0)).run Try.prog w = .ok (.string S) w := by
          rw [← hS]; exact run_convert_bytes_arg w 22 5 Try.underlying22 Try.underlying5 b off 0 0 [] rfl (by simp) 9 Try.underlying9
        have HS : Hid (S = strOfNums T.1) := by rw [HT.out]; exact hS.symm
        clear hS hc
        subst hca
        go_enter Try.func199, Try.ntmps199
        go_wp2_with fail
        refine hG.mono ?_
        clear hG
        rintro e w' ⟨rfl, rfl⟩
        go_wp2_with fail
        go_ret3
        exact ⟨ret3t (by rw [HT.out]; simp) HS.out, rfl⟩
      · have hcv : (convert 22 9 (.slice (some ⟨b, off + a, none⟩) k (cap - a))).run Try.prog w = .ok (.string S) w := by
          rw [← hS]
          refine run_convert_bytes_arg w 22 5 Try.underlying22 Try.underlying5 b (off + a) k (cap - a) ((zs.drop a).take k) (by simp; omega) (fun i hi => ?_) 9 Try.underlying9
          rw [Nat.add_assoc, hc (a + i) (by omega)]
          simp [hi]
        have HS : Hid (S = strOfNums T.1) := by rw [HT.out]; exact hS.symm
        clear hS hc
        go_enter Try.func199, Try.ntmps199
        go_wp2_with fail
        refine hG.mono ?_
        clear hG
        rintro e w' ⟨rfl, rfl⟩
        go_wp2_with fail
        go_ret3
        exact ⟨ret3t (by rw [HT.out]) HS.out, rfl⟩
    · rw [if_neg (by simpa using hin)] at hT
      have HT : Hid (T = ([], 0, false)) := hT.symm
      clear hb1 hT hc
      by_cases hx0 : x < 0
      · go_enter Try.func199, Try.ntmps199
        go_wp2_with fail
        refine hG.mono ?_
        clear hG
        rintro e w' ⟨rfl, rfl⟩
        go_wp2
        go_ret3
        exact ⟨ret3t (by rw [HT.out]) (by rw [HT.out]; rfl), rfl⟩
      · have hx1 : (n : Int) - nx < x := by omega
        go_enter Try.func199, Try.ntmps199
        go_wp2_with fail
        refine hG.mono ?_
        clear hG
        rintro e w' ⟨rfl, rfl⟩
        go_wp2
        go_ret3
        exact ⟨ret3t (by rw [HT.out]) (by rw [HT.out]; rfl), rfl⟩

set_option maxRecDepth 100000 in
set_option maxHeartbeats 400000 in
theorem specGetText_any (b off n cap : Nat) (p : Int) (zs : List Int) (w : World) (hz : zs.length = n) (hm : n ≤ 1099511627776) (hcap : n ≤ cap) (hcm : cap ≤ 9223372036854775807)
    (hc : ∀ i, i < n → w.cell? ⟨b, off + i, none⟩ = some (.int .u8 (zs.getD i 0))) (hr : ∀ j : Nat, 0 ≤ zs[j]?.getD 0 ∧ zs[j]?.getD 0 ≤ 255) :
    Calls Try.prog 131 #[.slice (some ⟨b, off, none⟩) n cap, .int .i64 p] w fun e w' => e = .returned (threeT (getText zs p)) ∧ w' = w := by
  have hG := specGetNum_any b off n cap p zs w hz (by omega) hc hr
  have hbd := getNum_bd zs p
  obtain ⟨T, hT⟩ : ∃ T, getText zs p = T := ⟨_, rfl⟩
  rw [hT]
  unfold getText at hT
  generalize getNum zs p = r at *
  obtain ⟨x, nx, ok⟩ := r
  simp only [three] at hG
  simp only at hbd hT
  obtain ⟨hb1, hb2, hb3⟩ := hbd
  clear hr
  cases ok with
  | false =>
    have HT : Hid (T = ([], 0, false)) := by rw [← hT, if_neg (by simp)]; exact rfl
    clear hb1 hT hc
    go_enter Try.func131, Try.ntmps131
    go_wp2_with fail
    refine hG.mono ?_
    clear hG
    rintro e w' ⟨rfl, rfl⟩
    go_wp2
    go_ret3
    exact ⟨ret3t (by rw [HT.out]) (by rw [HT.out]; rfl), rfl⟩
  | true =>
    obtain ⟨hn0, hn1⟩ := hb1 rfl
    rw [hz] at hn1 hT
    by_cases hin : 0 ≤ x ∧ x ≤ (n : Int) - nx
    · obtain ⟨hx0, hx1⟩ := hin
      rw [if_pos ⟨rfl, hx0, hx1⟩] at hT
      obtain ⟨k, rfl⟩ := Int.eq_ofNat_of_zero_le hx0
      obtain ⟨a, rfl⟩ := Int.eq_ofNat_of_zero_le (Int.le_of_lt hn0)
      simp only [Int.toNat_natCast] at hT
      have HT : Hid (T = ((zs.drop a).take k, (a : Int) + k, true)) := hT.symm
      clear hb1 hT
      obtain ⟨S, hS⟩ : ∃ S, strOfNums ((zs.drop a).take k) = S := ⟨_, rfl⟩
      by_cases hca : cap = a
      · obtain rfl : k = 0 := by omega
        have hcv : (convert 22 9 (.slice (some ⟨b, off, none⟩) 0 0)).run Try.prog w = .ok (.string S) w := by
          rw [← hS]; exact run_convert_bytes_arg w 22 5 Try.underlying22 Try.underlying5 b off 0 0 [] rfl (by simp) 9 Try.underlying9
        have HS : Hid (S = strOfNums T.1) := by rw [HT.out]; exact hS.symm
        clear hS hc
        subst hca
        go_enter Try.func131, Try.ntmps131
        go_wp2_with fail
        refine hG.mono ?_
        clear hG
        rintro e w' ⟨rfl, rfl⟩
        go_wp2_with fail
        go_ret3
        exact ⟨ret3t (by rw [HT.out]; simp) HS.out, rfl⟩
      · have hcv : (convert 22 9 (.slice (some ⟨b, off + a, none⟩) k (cap - a))).run Try.prog w = .ok (.string S) w := by
          rw [← hS]
          refine run_convert_bytes_arg w 22 5 Try.underlying22 Try.underlying5 b (off + a) k (cap - a) ((zs.drop a).take k) (by simp; omega) (fun i hi => ?_) 9 Try.underlying9
          rw [Nat.add_assoc, hc (a + i) (by omega)]
          simp [hi]
        have HS : Hid (S = strOfNums T.1) := by rw [HT.out]; exact hS.symm
        clear hS hc
        go_enter Try.func131, Try.ntmps131
        go_wp2_with fail
        refine hG.mono ?_
        clear hG
        rintro e w' ⟨rfl, rfl⟩
        go_wp2_with fail
        go_ret3
        exact ⟨ret3t (by rw [HT.out]) HS.out, rfl⟩
    · rw [if_neg (by simpa using hin)] at hT
      have HT : Hid (T = ([], 0, false)) := hT.symm
      clear hb1 hT hc
      by_cases hx0 : x < 0
      · go_enter Try.func131, Try.ntmps131
        go_wp2_with fail
        refine hG.mono ?_
        clear hG
        rintro e w' ⟨rfl, rfl⟩
        go_wp2
        go_ret3
        exact ⟨ret3t (by rw [HT.out]) (by rw [HT.out]; rfl), rfl⟩
      · have hx1 : (n : Int) - nx < x := by omega
        go_enter Try.func131, Try.ntmps131
        go_wp2_with fail
        refine hG.mono ?_
        clear hG
        rintro e w' ⟨rfl, rfl⟩
        go_wp2
        go_ret3
        exact ⟨ret3t (by rw [HT.out]) (by rw [HT.out]; rfl), rfl⟩

end Go.Proofs.Ythjmbbpakidkdaa
