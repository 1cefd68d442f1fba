/- Names and runs, the model's; names, the program's. -/
import Derived.Test.YthjmbbpakidkdaaTk2
namespace Go.Proofs.Ythjmbbpakidkdaa
open Go.RowKit
set_option linter.unusedVariables false

set_option maxHeartbeats 1000000 in
theorem specVarOk_any (s : ByteArray) (w : World) (hs : s.size ≤ 9223372036854775807) :
    Calls Try.prog 193 #[.string s] w fun e w' => ∃ b : Bool, e = .returned (.bool b) ∧ (b = true ↔ NameP s) ∧ w = w' := by
  go_enter Try.func193, Try.ntmps193
  go_wp2_with fail
  go_loop [3] (fun i => ∃ k : Nat, k ≤ s.size ∧ i = .int .i64 k ∧ Hid (∀ (j : Nat) (h : j < s.size), j < k → NmOk j (s[j].toNat : Int))) (fun i => s.size - (intOf i).toNat)
  case atStart => exact ⟨0, Nat.zero_le _, rfl, fun j _ hj => by omega⟩
  case round =>
    obtain ⟨k, hk, rfl, HD⟩ := hrel
    by_cases hlt : k < s.size
    · obtain ⟨x, hx⟩ : ∃ x, (s[k].toNat : Int) = x := ⟨_, rfl⟩
      have HX : Hid ((s[k].toNat : Int) = x) := hx
      have hx0 : 0 ≤ x := by omega
      have hx1 : x ≤ 255 := by have := s[k].toNat_lt; omega
      have hG := specLarge_any x w hx0 hx1
      have hS := specSmall_any x w hx0 hx1
      have hDg := specDigit_any x w hx0 hx1
      have HN : Hid (NmOk k x → ∀ (j : Nat) (h : j < s.size), j < k + 1 → NmOk j (s[j].toNat : Int)) := fun hc j hj hjk => by
        by_cases h : j < k
        · exact HD.out j hj h
        · obtain rfl : j = k := by omega
          rw [HX.out]; exact hc
      have HF : Hid (¬ NmOk k x → ¬ NameP s) := fun hc ha => hc (by rw [← HX.out]; exact ha.1 k hlt)
      clear HX HD
      cases hg : lgB x
      · rw [hg] at hG
        by_cases hk0 : k = 0
        · have hb0 : ((k : Int) == 0) = true := by simp [hk0]
          have HR : Hid (¬ NameP s) := HF.out (fun h => by rcases h with h | h; rw [hg] at h; cases h; exact h.1 hk0)
          clear HF HN hg hk0 hS hDg
          go_wp2_with (go_at_call 206; refine hG.mono ?_; rintro e w' ⟨rfl, rfl⟩)
          go_ret
          exact ⟨false, rfl, iff_no HR.out, rfl⟩
        · have hb0 : ((k : Int) == 0) = false := by simp [hk0]
          cases hsm : smB x
          · rw [hsm] at hS
            cases hd : dgB x
            · rw [hd] at hDg
              have HR : Hid (¬ NameP s) := HF.out (fun h => by
                rcases h with h | ⟨_, h | h⟩
                · rw [hg] at h; cases h
                · rw [hsm] at h; cases h
                · rw [hd] at h; cases h)
              clear HF HN hg hk0 hsm hd
              go_wp2_with (first | (go_at_call 206; refine hG.mono ?_; rintro e w' ⟨rfl, rfl⟩) | (go_at_call 207; refine hS.mono ?_; rintro e w' ⟨rfl, rfl⟩) | (go_at_call 208; refine hDg.mono ?_; rintro e w' ⟨rfl, rfl⟩))
              go_ret
              exact ⟨false, rfl, iff_no HR.out, rfl⟩
            · rw [hd] at hDg
              have HR : Hid (∀ (j : Nat) (h : j < s.size), j < k + 1 → NmOk j (s[j].toNat : Int)) := HN.out (.inr ⟨hk0, .inr hd⟩)
              clear HF HN hg hk0 hsm hd
              go_wp2_with (first | (go_at_call 206; refine hG.mono ?_; rintro e w' ⟨rfl, rfl⟩) | (go_at_call 207; refine hS.mono ?_; rintro e w' ⟨rfl, rfl⟩) | (go_at_call 208; refine hDg.mono ?_; rintro e w' ⟨rfl, rfl⟩))
              go_round
              case rel => exact ⟨k + 1, by omega, by go_num, HR⟩
              case measure => simp [intOf]; omega
          · rw [hsm] at hS
            have HR : Hid (∀ (j : Nat) (h : j < s.size), j < k + 1 → NmOk j (s[j].toNat : Int)) := HN.out (.inr ⟨hk0, .inl hsm⟩)
            clear HF HN hg hk0 hsm hDg
            go_wp2_with (first | (go_at_call 206; refine hG.mono ?_; rintro e w' ⟨rfl, rfl⟩) | (go_at_call 207; refine hS.mono ?_; rintro e w' ⟨rfl, rfl⟩))
            go_round
            case rel => exact ⟨k + 1, by omega, by go_num, HR⟩
            case measure => simp [intOf]; omega
      · rw [hg] at hG
        have HR : Hid (∀ (j : Nat) (h : j < s.size), j < k + 1 → NmOk j (s[j].toNat : Int)) := HN.out (.inl hg)
        clear HF HN hg hS hDg
        go_wp2_with (go_at_call 206; refine hG.mono ?_; rintro e w' ⟨rfl, rfl⟩)
        go_round
        case rel => exact ⟨k + 1, by omega, by go_num, HR⟩
        case measure => simp [intOf]; omega
    · have hL := specIn_any s.size 1 20 w
      go_wp2_with fail
      refine hL.mono ?_
      clear hL
      rintro e w' ⟨rfl, rfl⟩
      have HF : Hid ((decide (1 ≤ (s.size : Int)) && decide ((s.size : Int) ≤ 20)) = true ↔ NameP s) := by
        show _ ↔ _
        rw [Bool.and_eq_true, decide_eq_true_iff, decide_eq_true_iff]
        exact ⟨fun h => ⟨fun j hj => HD.out j hj (by omega), by omega, by omega⟩, fun h => ⟨by have := h.2.1; omega, by have := h.2.2; omega⟩⟩
      go_wp2
      go_ret
      exact ⟨_, rfl, HF.out, rfl⟩

set_option maxHeartbeats 1000000 in
theorem nameOk_any (s : ByteArray) (w : World) (hs : s.size ≤ 9223372036854775807) :
    Calls Try.prog 100 #[.string s] w fun e w' => ∃ b : Bool, e = .returned (.bool b) ∧ (b = true ↔ NameP s) ∧ w = w' := by
  by_cases h0 : s.size = 0
  · have HF : Hid (¬ NameP s) := fun h => by have := h.2.1; omega
    have he := (empty_iff s).2 h0
    clear h0
    go_enter Try.func100, Try.ntmps100
    go_wp2_with fail
    go_ret
    exact ⟨false, rfl, iff_no HF.out, rfl⟩
  have he := empty_no h0
  by_cases h1 : s.size ≤ 20
  case neg =>
    have HF : Hid (¬ NameP s) := fun h => by have := h.2.2; omega
    have hb : decide ((s.size : Int) ≤ 20) = false := by simp; omega
    clear h0 h1 hs
    go_enter Try.func100, Try.ntmps100
    go_wp2_with fail
    go_ret
    exact ⟨false, rfl, iff_no HF.out, rfl⟩
  have hlt0 : 0 < s.size := by omega
  have HI := nameP_iff s hlt0
  obtain ⟨x0, hx0⟩ : ∃ x, (s[0].toNat : Int) = x := ⟨_, rfl⟩
  rw [hx0] at HI
  have HII : Hid (NameP s ↔ s.size ≤ 20 ∧ lgB x0 = true ∧ RunTo nmB s 0 s.size) := HI
  clear HI
  have hL := beginsName_any x0 w
  cases hg : lgB x0
  · rw [hg] at hL
    have HF : Hid (¬ NameP s) := fun h => by have := (HII.out.1 h).2.1; rw [hg] at this; cases this
    clear hg HII
    go_enter Try.func100, Try.ntmps100
    go_wp2_with (go_at_call 157; refine hL.mono ?_; rintro e w' ⟨rfl, rfl⟩)
    go_ret
    exact ⟨false, rfl, iff_no HF.out, rfl⟩
  · rw [hg] at hL
    have hR := runName s w hs
    have HF : Hid (∀ k : Nat, RunTo nmB s 0 k → (((k : Int) == (s.size : Int)) = true ↔ NameP s)) := fun k hk => by
      rw [HII.out]
      constructor
      · intro h
        have : k = s.size := by have := (beq_iff_eq).1 h; omega
        exact ⟨h1, hg, by rw [← this]; exact hk⟩
      · intro h
        have := hk.unique h.2.2
        rw [this]; simp
    clear hg HII
    go_enter Try.func100, Try.ntmps100
    go_wp2_with (go_at_call 157; refine hL.mono ?_; rintro e w' ⟨rfl, rfl⟩)
    refine hR.mono ?_
    clear hR
    rintro e w' ⟨k, rfl, HK, rfl⟩
    have HB := HF.out k HK.out
    have HBB : Hid (((k : Int) == (s.size : Int)) = true ↔ NameP s) := HB
    clear HB HF HK
    go_wp2_with fail
    go_ret
    exact ⟨_, rfl, HBB.out, rfl⟩

end Go.Proofs.Ythjmbbpakidkdaa
