/- The number that digits tell: the model's and the program's. -/
import Derived.Test.YtickaplokjdijaaDoorLx1
namespace Go.Proofs.YtickaplokjdijaaDoor
open Go.RowKit
set_option linter.unusedVariables false

theorem dv_upto : ∀ (l : List UInt8) (a : Nat), (∀ c ∈ l, c.toNat ≤ 57) → l.foldl (fun a c => a * 10 + (c.toNat - 48)) a + 1 ≤ (a + 1) * 10 ^ l.length
  | [], a, _ => by simp
  | c :: l, a, h => by
    have h1 := dv_upto l (a * 10 + (c.toNat - 48)) (fun d hd => h d (List.mem_cons_of_mem _ hd))
    have h2 := h c (List.mem_cons_self ..)
    rw [List.foldl_cons, List.length_cons, Nat.pow_succ]
    refine Nat.le_trans h1 ?_
    have h3 : a * 10 + (c.toNat - 48) + 1 ≤ (a + 1) * 10 := by omega
    calc (a * 10 + (c.toNat - 48) + 1) * 10 ^ l.length ≤ ((a + 1) * 10) * 10 ^ l.length := Nat.mul_le_mul_right _ h3
      _ = (a + 1) * (10 ^ l.length * 10) := by rw [Nat.mul_assoc, Nat.mul_comm 10]

theorem dv_from : ∀ (l : List UInt8) (a : Nat), a * 10 ^ l.length ≤ l.foldl (fun a c => a * 10 + (c.toNat - 48)) a
  | [], a => by simp
  | c :: l, a => by
    have h1 := dv_from l (a * 10 + (c.toNat - 48))
    rw [List.foldl_cons, List.length_cons, Nat.pow_succ]
    refine Nat.le_trans ?_ h1
    calc a * (10 ^ l.length * 10) = (a * 10) * 10 ^ l.length := by rw [Nat.mul_assoc, Nat.mul_comm 10]
      _ ≤ (a * 10 + (c.toNat - 48)) * 10 ^ l.length := Nat.mul_le_mul_right _ (by omega)

theorem dv_lt (l : List UInt8) (h : ∀ c ∈ l, c.toNat ≤ 57) : dv l < 10 ^ l.length := by
  have := dv_upto l 0 h
  unfold dv
  omega

theorem dv_ge (l : List UInt8) (h0 : 0 < l.length) (h : ¬ l[0].toNat ≤ 48) : 10 ^ (l.length - 1) ≤ dv l := by
  match l, h0, h with
  | c :: l, _, h =>
    have h1 := dv_from l (0 * 10 + (c.toNat - 48))
    have h2 : 1 ≤ 0 * 10 + (c.toNat - 48) := by simp at h; omega
    show 10 ^ l.length ≤ l.foldl _ (0 * 10 + (c.toNat - 48))
    exact Nat.le_trans (by have := Nat.mul_le_mul_right (10 ^ l.length) h2; omega) h1

theorem dv_part (l : List UInt8) (k : Nat) : dv (l.take k) ≤ dv l := by
  have h1 := dv_from (l.drop k) (dv (l.take k))
  have h2 : dv l = (l.drop k).foldl (fun a c => a * 10 + (c.toNat - 48)) (dv (l.take k)) := by
    unfold dv
    rw [← List.foldl_append, List.take_append_drop]
  rw [h2]
  refine Nat.le_trans ?_ h1
  have : 1 ≤ 10 ^ (l.drop k).length := Nat.pow_pos (by omega)
  have := Nat.mul_le_mul_left (dv (l.take k)) this
  omega

theorem dv_step (l : List UInt8) (k : Nat) (h : k < l.length) : dv (l.take (k + 1)) = dv (l.take k) * 10 + (l[k].toNat - 48) := by
  unfold dv
  rw [List.take_succ_eq_append_getElem h, List.foldl_append]
  rfl

/-- All digits. -/
def DigP (d : ByteArray) : Prop := 0 < d.size ∧ ∀ (j : Nat) (h : j < d.size), dgB (d[j].toNat : Int) = true

theorem dgB_iff (x : Int) : dgB x = true ↔ 48 ≤ x ∧ x ≤ 57 := by simp [dgB]

theorem DigP.le {d : ByteArray} (h : DigP d) : ∀ c ∈ d.data.toList, c.toNat ≤ 57 := by
  intro c hc
  obtain ⟨j, hj, e⟩ := List.getElem_of_mem hc
  have hj2 : j < d.size := by rw [Lib.size_eq]; exact hj
  have := (dgB_iff _).1 (h.2 j hj2)
  have e2 : d[j] = c := by rw [← e]; rfl
  rw [e2] at this
  omega

/-- A number that is told without needless noughts, and how great it is. -/
def NumP (d : ByteArray) : Prop := ¬ (1 < d.size ∧ ∃ h : 0 < d.size, (d[0].toNat : Int) = 48)

theorem num_short {d : ByteArray} (h : DigP d) (hn : NumP d) (hv : dv d.data.toList ≤ 1000000000000) : d.size ≤ 13 := by
  refine Nat.le_of_not_lt fun hlt => ?_
  have h0 : 0 < d.data.toList.length := by rw [← Lib.size_eq]; exact h.1
  have hf : ¬ (d.data.toList[0].toNat ≤ 48) := fun hle => by
    have := (dgB_iff _).1 (h.2 0 h.1)
    have e : d[0] = d.data.toList[0] := rfl
    exact hn ⟨by omega, h.1, by rw [e] at this ⊢; omega⟩
  have h1 := dv_ge d.data.toList h0 hf
  rw [← Lib.size_eq] at h1
  have h2 : 10 ^ 13 ≤ 10 ^ (d.size - 1) := Nat.pow_le_pow_right (by omega) (by omega)
  have h3 : (10 : Nat) ^ 13 = 10000000000000 := by decide
  omega

/-- What digits come to as a number, by the model. -/
def NumAns (d : ByteArray) (n : Int) : Prop := (n = dv d.data.toList ∧ d.size ≤ 13 ∧ NumP d) ∨ (n = -1 ∧ ¬ (d.size ≤ 13 ∧ NumP d))

/-- What digits come to as a number, by the program. -/
def NumAns2 (d : ByteArray) (n : Int) (ok : Bool) : Prop := (ok = true ∧ n = dv d.data.toList ∧ n ≤ 1000000000000 ∧ NumP d) ∨ (ok = false ∧ n = 0 ∧ ¬ ((dv d.data.toList : Int) ≤ 1000000000000 ∧ NumP d))

theorem dig_at {d : ByteArray} (h : DigP d) (k : Nat) (hk : k < d.size) : 48 ≤ (d[k].toNat : Int) ∧ (d[k].toNat : Int) ≤ 57 ∧ (dv (d.data.toList.take (k + 1)) : Int) = (dv (d.data.toList.take k) : Int) * 10 + ((d[k].toNat : Int) - 48) := by
  have h1 := (dgB_iff _).1 (h.2 k hk)
  have h2 := dv_step d.data.toList k (by rw [← Lib.size_eq]; exact hk)
  have e : d.data.toList[k]'(by rw [← Lib.size_eq]; exact hk) = d[k] := rfl
  rw [e] at h2
  refine ⟨h1.1, h1.2, ?_⟩
  rw [h2]
  omega

theorem dig_lt {d : ByteArray} (h : DigP d) (k : Nat) (hk : k ≤ 13) : dv (d.data.toList.take k) < 10000000000000 := by
  have h1 := dv_lt (d.data.toList.take k) (fun c hc => h.le c (List.mem_of_mem_take hc))
  have h2 : 10 ^ (d.data.toList.take k).length ≤ 10 ^ 13 := Nat.pow_le_pow_right (by omega) (by rw [List.length_take]; omega)
  have h3 : (10 : Nat) ^ 13 = 10000000000000 := by decide
  omega

theorem take_all (d : ByteArray) (k : Nat) (h : ¬ k < d.size) : d.data.toList.take k = d.data.toList := List.take_of_length_le (by rw [← Lib.size_eq]; omega)

set_option maxHeartbeats 2000000 in
theorem specNumber_any (d : ByteArray) (w : World) (hd : DigP d) (hs : d.size ≤ 9223372036854775807) :
    Calls Tryd.prog 71 #[.string d] w fun e w' => ∃ n : Int, e = .returned (.int .i64 n) ∧ Hid (NumAns d n) ∧ w = w' := by
  have hL := specIn_any d.size 1 13 w
  by_cases h13 : d.size ≤ 13
  case neg =>
    rw [show decide (1 ≤ (d.size : Int) ∧ (d.size : Int) ≤ 13) = false from by simp; omega] at hL
    have HF : Hid (NumAns d (-1)) := .inr ⟨rfl, fun h => h13 h.1⟩
    clear hd h13
    go_enter Tryd.func71, Tryd.ntmps71
    go_wp2_with fail
    refine hL.mono ?_
    clear hL
    rintro e w' ⟨rfl, rfl⟩
    go_wp2_with fail
    go_ret
    exact ⟨-1, rfl, HF, rfl⟩
  have hd0 := hd.1
  rw [show decide (1 ≤ (d.size : Int) ∧ (d.size : Int) ≤ 13) = true from by simp; omega] at hL
  obtain ⟨x0, hx0⟩ : ∃ x, (d[0].toNat : Int) = x := ⟨_, rfl⟩
  have HX0 : Hid ((d[0].toNat : Int) = x0) := hx0
  by_cases hn : NumP d
  case neg =>
    have hn2 : 1 < d.size ∧ x0 = 48 := by
      refine Decidable.byContradiction fun h => hn fun hh => h ⟨hh.1, ?_⟩
      obtain ⟨_, h0, h1⟩ := hh
      rw [← HX0.out]; exact h1
    have HF : Hid (NumAns d (-1)) := .inr ⟨rfl, fun h => hn h.2⟩
    obtain ⟨h1, rfl⟩ := hn2
    have hb : decide ((1 : Int) < d.size) = true := by simp; omega
    clear hd hn
    go_enter Tryd.func71, Tryd.ntmps71
    go_wp2_with fail
    refine hL.mono ?_
    clear hL
    rintro e w' ⟨rfl, rfl⟩
    go_wp2_with fail
    go_ret
    exact ⟨-1, rfl, HF, rfl⟩
  have HN : Hid (NumP d) := hn
  have HDG : Hid (DigP d) := hd
  have hcond : (1 : Int) < d.size → (x0 == 48) = false := fun h1 => by
    rw [beq_eq_false_iff_ne]
    exact fun h => hn ⟨by omega, hd0, by rw [HX0.out, h]⟩
  clear hn hd
  by_cases h1 : (1 : Int) < d.size
  · have hb : decide ((1 : Int) < d.size) = true := by simp; omega
    have hb2 : (x0 == 48) = false := hcond h1
    clear hcond
    go_enter Tryd.func71, Tryd.ntmps71
    go_wp2_with fail
    refine hL.mono ?_
    clear hL
    rintro e w' ⟨rfl, rfl⟩
    go_wp2_with fail
    clear hx0 HX0 hb2
    go_loop [3, 4] (fun n i => ∃ (k : Nat) (m : Int), k ≤ d.size ∧ i = .int .i64 k ∧ n = .int .i64 m ∧ 0 ≤ m ∧ (k ≤ 12 → m ≤ 999999999999) ∧ m ≤ 9999999999999 ∧ Hid (m = dv (d.data.toList.take k))) (fun _ i => d.size - (intOf i).toNat)
    case atStart => exact ⟨0, 0, Nat.zero_le _, rfl, rfl, by omega, by omega, by omega, rfl⟩
    case round =>
      obtain ⟨k, m, hk, rfl, rfl, hm0, hm1, hm2, HM⟩ := hrel
      by_cases hlt : k < d.size
      · obtain ⟨x, hx⟩ : ∃ x, (d[k].toNat : Int) = x := ⟨_, rfl⟩
        have HX : Hid ((d[k].toNat : Int) = x) := hx
        obtain ⟨q1, q2, q3⟩ := dig_at HDG.out k hlt
        rw [HX.out] at q1 q2 q3
        have hDg := specDigit_any x w (by omega) (by omega)
        rw [(dgB_iff x).2 ⟨q1, q2⟩] at hDg
        have hmk : m ≤ 999999999999 := hm1 (by omega)
        have HNX : Hid (m * 10 + (x - 48) = dv (d.data.toList.take (k + 1))) := by show _ = _; rw [q3, HM.out]
        have hnb : k + 1 ≤ 12 → m * 10 + (x - 48) ≤ 999999999999 := fun hk12 => by
          have h1 := dv_lt (d.data.toList.take (k + 1)) (fun c hc => HDG.out.le c (List.mem_of_mem_take hc))
          have h2 : 10 ^ (d.data.toList.take (k + 1)).length ≤ 10 ^ 12 := Nat.pow_le_pow_right (by omega) (by rw [List.length_take]; omega)
          have h3 : (10 : Nat) ^ 12 = 1000000000000 := by decide
          rw [HNX.out]
          omega
        clear HM HX q3 hm1
        go_wp2_with fail
        refine hDg.mono ?_
        clear hDg
        rintro e w' ⟨rfl, rfl⟩
        go_wp2_with fail
        go_round
        case rel => exact ⟨k + 1, m * 10 + (x - 48), by omega, by go_num, by go_num, by omega, hnb, by omega, HNX⟩
        case measure => simp [intOf]; omega
      · have HF : Hid (NumAns d m) := .inl ⟨by rw [HM.out, take_all d k hlt], h13, HN.out⟩
        have hb9 : decide ((k : Int) < d.size) = false := by simp; omega
        clear HM hm1
        go_wp2_with fail
        go_ret
        exact ⟨m, rfl, HF, rfl⟩
  · have hb : decide ((1 : Int) < d.size) = false := by simp; omega
    clear hcond
    go_enter Tryd.func71, Tryd.ntmps71
    go_wp2_with fail
    refine hL.mono ?_
    clear hL
    rintro e w' ⟨rfl, rfl⟩
    go_wp2_with fail
    clear hx0 HX0
    go_loop [3, 4] (fun n i => ∃ (k : Nat) (m : Int), k ≤ d.size ∧ i = .int .i64 k ∧ n = .int .i64 m ∧ 0 ≤ m ∧ (k ≤ 12 → m ≤ 999999999999) ∧ m ≤ 9999999999999 ∧ Hid (m = dv (d.data.toList.take k))) (fun _ i => d.size - (intOf i).toNat)
    case atStart => exact ⟨0, 0, Nat.zero_le _, rfl, rfl, by omega, by omega, by omega, rfl⟩
    case round =>
      obtain ⟨k, m, hk, rfl, rfl, hm0, hm1, hm2, HM⟩ := hrel
      by_cases hlt : k < d.size
      · obtain ⟨x, hx⟩ : ∃ x, (d[k].toNat : Int) = x := ⟨_, rfl⟩
        have HX : Hid ((d[k].toNat : Int) = x) := hx
        obtain ⟨q1, q2, q3⟩ := dig_at HDG.out k hlt
        rw [HX.out] at q1 q2 q3
        have hDg := specDigit_any x w (by omega) (by omega)
        rw [(dgB_iff x).2 ⟨q1, q2⟩] at hDg
        have hmk : m ≤ 999999999999 := hm1 (by omega)
        have HNX : Hid (m * 10 + (x - 48) = dv (d.data.toList.take (k + 1))) := by show _ = _; rw [q3, HM.out]
        have hnb : k + 1 ≤ 12 → m * 10 + (x - 48) ≤ 999999999999 := fun hk12 => by
          have h1 := dv_lt (d.data.toList.take (k + 1)) (fun c hc => HDG.out.le c (List.mem_of_mem_take hc))
          have h2 : 10 ^ (d.data.toList.take (k + 1)).length ≤ 10 ^ 12 := Nat.pow_le_pow_right (by omega) (by rw [List.length_take]; omega)
          have h3 : (10 : Nat) ^ 12 = 1000000000000 := by decide
          rw [HNX.out]
          omega
        clear HM HX q3 hm1
        go_wp2_with fail
        refine hDg.mono ?_
        clear hDg
        rintro e w' ⟨rfl, rfl⟩
        go_wp2_with fail
        go_round
        case rel => exact ⟨k + 1, m * 10 + (x - 48), by omega, by go_num, by go_num, by omega, hnb, by omega, HNX⟩
        case measure => simp [intOf]; omega
      · have HF : Hid (NumAns d m) := .inl ⟨by rw [HM.out, take_all d k hlt], h13, HN.out⟩
        have hb9 : decide ((k : Int) < d.size) = false := by simp; omega
        clear HM hm1
        go_wp2_with fail
        go_ret
        exact ⟨m, rfl, HF, rfl⟩

/-- What numOf hands on. -/
def NumPost (d : ByteArray) (w : World) (e : Ending) (w' : World) : Prop := ∃ (n : Int) (ok : Bool), e = .returned (.tuple #[.int .i64 n, .bool ok]) ∧ NumAns2 d n ok ∧ w = w'

set_option maxHeartbeats 2000000 in
theorem numOf_any (d : ByteArray) (w : World) (hd : DigP d) (hs : d.size ≤ 9223372036854775807) : Calls Tryd.prog 85 #[.string d] w (NumPost d w) := by
  have hd0 := hd.1
  have he := empty_no (show ¬ d.size = 0 by omega)
  obtain ⟨x0, hx0⟩ : ∃ x, (d[0].toNat : Int) = x := ⟨_, rfl⟩
  have HX0 : Hid ((d[0].toNat : Int) = x0) := hx0
  by_cases hn : NumP d
  case neg =>
    have hn2 : 1 < d.size ∧ x0 = 48 := by
      refine Decidable.byContradiction fun h => hn fun hh => h ⟨hh.1, ?_⟩
      obtain ⟨_, h0, h1⟩ := hh
      rw [← HX0.out]; exact h1
    have HF : Hid (NumAns2 d 0 false) := .inr ⟨rfl, rfl, fun h => hn h.2⟩
    obtain ⟨h1, rfl⟩ := hn2
    have hb : decide ((1 : Int) < d.size) = true := by simp; omega
    clear hd hn
    go_enter Tryd.func85, Tryd.ntmps85
    go_wp2_with fail
    refine bodyPost_ret (v := .tuple #[.int .i64 0, .bool false]) (by first | (simp [results, Tryd.results85, go_sem]; done) | (simp [results, Tryd.results85, go_sem]; rfl)) rfl ⟨0, false, rfl, HF.out, rfl⟩
  have HN : Hid (NumP d) := hn
  have HDG : Hid (DigP d) := hd
  have hcond : (1 : Int) < d.size → (x0 == 48) = false := fun h1 => by
    rw [beq_eq_false_iff_ne]
    exact fun h => hn ⟨by omega, hd0, by rw [HX0.out, h]⟩
  clear hn hd
  cases hz : (x0 == 48)
  · clear hcond
    go_enter Tryd.func85, Tryd.ntmps85
    go_wp2_with fail
    clear hx0 HX0 hz
    go_loop [4, 20] (fun n i => ∃ (k : Nat) (m : Int), k ≤ d.size ∧ i = .int .i64 k ∧ n = .int .i64 m ∧ 0 ≤ m ∧ m ≤ 1000000000000 ∧ Hid (m = dv (d.data.toList.take k))) (fun _ i => d.size - (intOf i).toNat)
    case atStart => exact ⟨0, 0, Nat.zero_le _, rfl, rfl, by omega, by omega, rfl⟩
    case round =>
      obtain ⟨k, m, hk, rfl, rfl, hm0, hm1, HM⟩ := hrel
      by_cases hlt : k < d.size
      · obtain ⟨x, hx⟩ : ∃ x, (d[k].toNat : Int) = x := ⟨_, rfl⟩
        have HX : Hid ((d[k].toNat : Int) = x) := hx
        obtain ⟨q1, q2, q3⟩ := dig_at HDG.out k hlt
        rw [HX.out] at q1 q2 q3
        have hDg := isDigit_any x w
        rw [show decide (48 ≤ x ∧ x ≤ 57) = true from by simp [q1, q2]] at hDg
        have HNX : Hid (m * 10 + (x - 48) = dv (d.data.toList.take (k + 1))) := by show _ = _; rw [q3, HM.out]
        by_cases hg : 1000000000000 < m * 10 + (x - 48)
        · have HF : Hid (NumAns2 d 0 false) := .inr ⟨rfl, rfl, fun h => by have h1 := dv_part d.data.toList (k + 1); have h2 := HNX.out; omega⟩
          have hbg : decide (1000000000000 < m * 10 + (x - 48)) = true := by simp; omega
          clear HM HX q3 HNX hg
          go_wp2_with (go_at_call 58; refine hDg.mono ?_; rintro e w' ⟨rfl, rfl⟩)
          refine bodyPost_ret (v := .tuple #[.int .i64 0, .bool false]) (by first | (simp [results, Tryd.results85, go_sem]; done) | (simp [results, Tryd.results85, go_sem]; rfl)) rfl ⟨0, false, rfl, HF.out, rfl⟩
        · have hbg : decide (1000000000000 < m * 10 + (x - 48)) = false := by simp; omega
          clear HM HX q3
          go_wp2_with (go_at_call 58; refine hDg.mono ?_; rintro e w' ⟨rfl, rfl⟩)
          go_round
          case rel => exact ⟨k + 1, m * 10 + (x - 48), by omega, by go_num, by go_num, by omega, by omega, HNX⟩
          case measure => simp [intOf]; omega
      · have HF : Hid (NumAns2 d m true) := .inl ⟨rfl, by rw [HM.out, take_all d k hlt], hm1, HN.out⟩
        have hb9 : decide ((k : Int) < d.size) = false := by simp; omega
        clear HM
        go_wp2_with fail
        refine bodyPost_ret (v := .tuple #[.int .i64 m, .bool true]) (by first | (simp [results, Tryd.results85, go_sem]; done) | (simp [results, Tryd.results85, go_sem]; rfl)) rfl ⟨m, true, rfl, HF.out, rfl⟩
  · have hb : decide ((1 : Int) < d.size) = false := by
      simp only [decide_eq_false_iff_not]
      intro h
      have := hcond h
      rw [hz] at this
      cases this
    clear hcond
    go_enter Tryd.func85, Tryd.ntmps85
    go_wp2_with fail
    clear hx0 HX0 hz
    go_loop [4, 20] (fun n i => ∃ (k : Nat) (m : Int), k ≤ d.size ∧ i = .int .i64 k ∧ n = .int .i64 m ∧ 0 ≤ m ∧ m ≤ 1000000000000 ∧ Hid (m = dv (d.data.toList.take k))) (fun _ i => d.size - (intOf i).toNat)
    case atStart => exact ⟨0, 0, Nat.zero_le _, rfl, rfl, by omega, by omega, rfl⟩
    case round =>
      obtain ⟨k, m, hk, rfl, rfl, hm0, hm1, HM⟩ := hrel
      by_cases hlt : k < d.size
      · obtain ⟨x, hx⟩ : ∃ x, (d[k].toNat : Int) = x := ⟨_, rfl⟩
        have HX : Hid ((d[k].toNat : Int) = x) := hx
        obtain ⟨q1, q2, q3⟩ := dig_at HDG.out k hlt
        rw [HX.out] at q1 q2 q3
        have hDg := isDigit_any x w
        rw [show decide (48 ≤ x ∧ x ≤ 57) = true from by simp [q1, q2]] at hDg
        have HNX : Hid (m * 10 + (x - 48) = dv (d.data.toList.take (k + 1))) := by show _ = _; rw [q3, HM.out]
        by_cases hg : 1000000000000 < m * 10 + (x - 48)
        · have HF : Hid (NumAns2 d 0 false) := .inr ⟨rfl, rfl, fun h => by have h1 := dv_part d.data.toList (k + 1); have h2 := HNX.out; omega⟩
          have hbg : decide (1000000000000 < m * 10 + (x - 48)) = true := by simp; omega
          clear HM HX q3 HNX hg
          go_wp2_with (go_at_call 58; refine hDg.mono ?_; rintro e w' ⟨rfl, rfl⟩)
          refine bodyPost_ret (v := .tuple #[.int .i64 0, .bool false]) (by first | (simp [results, Tryd.results85, go_sem]; done) | (simp [results, Tryd.results85, go_sem]; rfl)) rfl ⟨0, false, rfl, HF.out, rfl⟩
        · have hbg : decide (1000000000000 < m * 10 + (x - 48)) = false := by simp; omega
          clear HM HX q3
          go_wp2_with (go_at_call 58; refine hDg.mono ?_; rintro e w' ⟨rfl, rfl⟩)
          go_round
          case rel => exact ⟨k + 1, m * 10 + (x - 48), by omega, by go_num, by go_num, by omega, by omega, HNX⟩
          case measure => simp [intOf]; omega
      · have HF : Hid (NumAns2 d m true) := .inl ⟨rfl, by rw [HM.out, take_all d k hlt], hm1, HN.out⟩
        have hb9 : decide ((k : Int) < d.size) = false := by simp; omega
        clear HM
        go_wp2_with fail
        refine bodyPost_ret (v := .tuple #[.int .i64 m, .bool true]) (by first | (simp [results, Tryd.results85, go_sem]; done) | (simp [results, Tryd.results85, go_sem]; rfl)) rfl ⟨m, true, rfl, HF.out, rfl⟩

/-- What digits come to as a token, by the program. -/
def NumTok (d : ByteArray) (k n : Int) : Prop := (k = 1 ∧ n = dv d.data.toList ∧ n ≤ 1000000000000 ∧ NumP d) ∨ (k = 0 ∧ n = 0 ∧ ¬ ((dv d.data.toList : Int) ≤ 1000000000000 ∧ NumP d))

set_option maxHeartbeats 1000000 in
theorem numToken_any (d : ByteArray) (w : World) (hd : DigP d) (hs : d.size ≤ 9223372036854775807) :
    Calls Tryd.prog 60 #[.string d] w fun e w' => ∃ k n : Int, e = .returned (.agg #[.int .i64 k, .int .i64 n, .string ⟨#[]⟩]) ∧ Hid (NumTok d k n) ∧ Below w.heap.size w w' := by
  have hC := numOf_any d (w.alloc (.cells #[.int .i64 0, .int .i64 0, .string ⟨#[]⟩] 31)) hd hs
  have hA : Below w.heap.size w (w.alloc (.cells #[.int .i64 0, .int .i64 0, .string ⟨#[]⟩] 31)) := (Below.refl _ _).alloc (Nat.le_refl _) _
  go_enter Tryd.func60, Tryd.ntmps60
  go_wp2_with fail
  refine hC.mono ?_
  clear hC
  rintro e w' ⟨n, ok, rfl, ha, rfl⟩
  cases ok
  · have HF : Hid (NumTok d 0 0) := by
      rcases ha with ⟨h, _⟩ | ⟨_, _, h⟩
      · cases h
      · exact .inr ⟨rfl, rfl, h⟩
    clear ha hd
    go_wp2_with fail
    refine bodyPost_ret (v := .agg #[.int .i64 0, .int .i64 0, .string ⟨#[]⟩]) (by first | (simp [results, Tryd.results60, go_sem]; done) | (simp [results, Tryd.results60, go_sem]; rfl)) rfl ⟨0, 0, rfl, HF, ?_⟩
    first | exact hA | exact (((hA.setCell (Nat.le_refl _) _).setCell (Nat.le_refl _) _).setCell (Nat.le_refl _) _)
  · have HF : Hid (NumTok d 1 n) := by
      rcases ha with ⟨_, h1, h2, h3⟩ | ⟨h, _, _⟩
      · exact .inl ⟨rfl, h1, h2, h3⟩
      · cases h
    clear ha hd
    go_wp2_with fail
    refine bodyPost_ret (v := .agg #[.int .i64 1, .int .i64 n, .string ⟨#[]⟩]) (by first | (simp [results, Tryd.results60, go_sem]; done) | (simp [results, Tryd.results60, go_sem]; rfl)) rfl ⟨1, n, rfl, HF, ?_⟩
    first | exact hA | exact (Below.refl _ _).alloc (Nat.le_refl _) _ | exact (((hA.setCell (Nat.le_refl _) _).setCell (Nat.le_refl _) _).setCell (Nat.le_refl _) _)

end Go.Proofs.YtickaplokjdijaaDoor
