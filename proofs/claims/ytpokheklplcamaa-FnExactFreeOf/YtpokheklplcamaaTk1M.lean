/- The program's and the model's tests of a byte of a token. -/
import Derived.Test.YtpokheklplcamaaIOkM
import Derived.Shelf.Abstract
namespace Go.Proofs.Ytpokheklplcamaa
open Go.RowKit
set_option linter.unusedVariables false

/-- A byte that a name may begin with. -/
def lgB (x : Int) : Bool := decide (65 ≤ x ∧ x ≤ 90) || x == 95
/-- A small letter. -/
def smB (x : Int) : Bool := decide (97 ≤ x ∧ x ≤ 122)
/-- A digit. -/
def dgB (x : Int) : Bool := decide (48 ≤ x ∧ x ≤ 57)
/-- A byte that a name may have. -/
def nmB (x : Int) : Bool := atB x || lgB x

theorem beginsName_any (x : Int) (w : World) : Calls Try.prog 108 #[.int .u8 x] w fun e w' => e = .returned (.bool (lgB x)) ∧ w = w' := by
  by_cases h1 : 65 ≤ x
  · by_cases h2 : x ≤ 90
    · rw [show lgB x = true from by simp [lgB, h1, h2]]
      go_enter Try.func108, Try.ntmps108
      go_wp2
      go_ret
      exact ⟨rfl, rfl⟩
    · rw [show lgB x = (x == 95) from by simp [lgB, h2]]
      go_enter Try.func108, Try.ntmps108
      go_wp2
      go_ret
      exact ⟨rfl, rfl⟩
  · rw [show lgB x = (x == 95) from by simp [lgB, h1]]
    go_enter Try.func108, Try.ntmps108
    go_wp2
    go_ret
    exact ⟨rfl, rfl⟩

theorem isNameByte_any (x : Int) (w : World) : Calls Try.prog 110 #[.int .u8 x] w fun e w' => e = .returned (.bool (nmB x)) ∧ w = w' := by
  have hL := isAtomByte_any x w
  have hL2 := beginsName_any x w
  unfold nmB
  cases h : atB x
  · rw [h] at hL
    rw [Bool.false_or]
    clear h
    generalize lgB x = b at hL2 ⊢
    go_enter Try.func110, Try.ntmps110
    go_wp2_with fail
    refine hL.mono ?_
    clear hL
    rintro e w' ⟨rfl, rfl⟩
    go_wp2_with fail
    refine hL2.mono ?_
    clear hL2
    rintro e w' ⟨rfl, rfl⟩
    go_wp2_with fail
    go_ret
    exact ⟨rfl, rfl⟩
  · rw [h] at hL
    rw [Bool.true_or]
    clear h hL2
    go_enter Try.func110, Try.ntmps110
    go_wp2_with fail
    refine hL.mono ?_
    clear hL
    rintro e w' ⟨rfl, rfl⟩
    go_wp2_with fail
    go_ret
    exact ⟨rfl, rfl⟩

theorem specSmall_any (x : Int) (w : World) (h0 : 0 ≤ x) (h1 : x ≤ 255) : Calls Try.prog 116 #[.int .u8 x] w fun e w' => e = .returned (.bool (smB x)) ∧ w = w' := by
  have hL := specIn_any x 97 122 w
  unfold smB
  generalize decide (97 ≤ x ∧ x ≤ 122) = b at hL ⊢
  go_enter Try.func116, Try.ntmps116
  go_wp2_with fail
  refine hL.mono ?_
  clear hL
  rintro e w' ⟨rfl, rfl⟩
  go_wp2_with fail
  go_ret
  exact ⟨rfl, rfl⟩

theorem specDigit_any (x : Int) (w : World) (h0 : 0 ≤ x) (h1 : x ≤ 255) : Calls Try.prog 117 #[.int .u8 x] w fun e w' => e = .returned (.bool (dgB x)) ∧ w = w' := by
  have hL := specIn_any x 48 57 w
  unfold dgB
  generalize decide (48 ≤ x ∧ x ≤ 57) = b at hL ⊢
  go_enter Try.func117, Try.ntmps117
  go_wp2_with fail
  refine hL.mono ?_
  clear hL
  rintro e w' ⟨rfl, rfl⟩
  go_wp2_with fail
  go_ret
  exact ⟨rfl, rfl⟩

theorem specLarge_any (x : Int) (w : World) (h0 : 0 ≤ x) (h1 : x ≤ 255) : Calls Try.prog 115 #[.int .u8 x] w fun e w' => e = .returned (.bool (lgB x)) ∧ w = w' := by
  have hL := specIn_any x 65 90 w
  unfold lgB
  generalize hb : decide (65 ≤ x ∧ x ≤ 90) = b at hL ⊢
  clear hb
  cases b
  · rw [Bool.false_or]
    go_enter Try.func115, Try.ntmps115
    go_wp2_with fail
    refine hL.mono ?_
    clear hL
    rintro e w' ⟨rfl, rfl⟩
    go_wp2_with fail
    go_ret
    exact ⟨rfl, rfl⟩
  · rw [Bool.true_or]
    go_enter Try.func115, Try.ntmps115
    go_wp2_with fail
    refine hL.mono ?_
    clear hL
    rintro e w' ⟨rfl, rfl⟩
    go_wp2_with fail
    go_ret
    exact ⟨rfl, rfl⟩

end Go.Proofs.Ytpokheklplcamaa

/- How far a run of bytes goes, and what a name is: the program's and the model's. -/
namespace Go.Proofs.Ytpokheklplcamaa
open Go.RowKit
set_option linter.unusedVariables false

/-- The run of bytes of which p holds goes from place i to place k. -/
def RunTo (p : Int → Bool) (s : ByteArray) (i k : Nat) : Prop :=
  i ≤ k ∧ k ≤ s.size ∧ (∀ (j : Nat) (h : j < s.size), i ≤ j → j < k → p (s[j].toNat : Int) = true) ∧ (∀ h : k < s.size, p (s[k].toNat : Int) = false)

theorem RunTo.unique {p : Int → Bool} {s : ByteArray} {i k k' : Nat} (h : RunTo p s i k) (h' : RunTo p s i k') : k = k' := by
  obtain ⟨a1, a2, a3, a4⟩ := h
  obtain ⟨b1, b2, b3, b4⟩ := h'
  rcases Nat.lt_trichotomy k k' with h | h | h
  · have := a4 (by omega); rw [b3 k (by omega) a1 h] at this; cases this
  · exact h
  · have := b4 (by omega); rw [a3 k' (by omega) b1 h] at this; cases this

/-- What a test of a byte answers. -/
def ByteTold (g : Nat) (p : Int → Bool) : Prop := ∀ (x : Int) (w : World), 0 ≤ x → x ≤ 255 → Calls Try.prog g #[.int .u8 x] w fun e w' => e = .returned (.bool (p x)) ∧ w = w'

set_option maxHeartbeats 1000000 in
theorem runSize_any (g : Nat) (p : Int → Bool) (eg : ∀ args w, (callFunc g args).run Try.prog w = .ok (.enter g args) w) (H : ByteTold g p) (s : ByteArray) (w : World) (hs : s.size ≤ 9223372036854775807) :
    Calls Try.prog 109 #[.string s, .func (.func g) #[] #[]] w fun e w' => ∃ k : Nat, e = .returned (.int .i64 k) ∧ Hid (RunTo p s 0 k) ∧ w = w' := by
  have HH : Hid (ByteTold g p) := H
  clear H
  go_enter Try.func109, Try.ntmps109
  go_wp2_with fail
  go_loop [5] (fun i => ∃ k : Nat, k ≤ s.size ∧ i = .int .i64 k ∧ Hid (∀ (j : Nat) (h : j < s.size), j < k → p (s[j].toNat : Int) = true)) (fun i => s.size - (intOf i).toNat)
  case atStart => exact ⟨0, Nat.zero_le _, rfl, fun j _ hj => by omega⟩
  case round =>
    obtain ⟨k, hk, rfl, HD⟩ := hrel
    by_cases hlt : k < s.size
    · obtain ⟨x, hx⟩ : ∃ x, (s[k].toNat : Int) = x := ⟨_, rfl⟩
      have HX : Hid ((s[k].toNat : Int) = x) := hx
      have hx0 : 0 ≤ x := by omega
      have hx1 : x ≤ 255 := by have := s[k].toNat_lt; omega
      have hL := HH.out x w hx0 hx1
      cases hp : p x
      · rw [hp] at hL
        have HR : Hid (RunTo p s 0 k) := ⟨Nat.zero_le _, hk, fun j hj _ hjk => HD.out j hj hjk, fun h => by rw [HX.out]; exact hp⟩
        clear hp HD HH HX
        go_wp2_with (go_at_fn g; refine hL.mono ?_; rintro e w' ⟨rfl, rfl⟩)
        go_ret
        exact ⟨k, rfl, HR, rfl⟩
      · rw [hp] at hL
        have HR : Hid (∀ (j : Nat) (h : j < s.size), j < k + 1 → p (s[j].toNat : Int) = true) := fun j hj hjk => by
          by_cases h : j < k
          · exact HD.out j hj h
          · obtain rfl : j = k := by omega
            rw [HX.out]; exact hp
        clear hp HD HH HX
        go_wp2_with (go_at_fn g; refine hL.mono ?_; rintro e w' ⟨rfl, rfl⟩)
        go_round
        case rel => exact ⟨k + 1, by omega, by go_num, HR⟩
        case measure => simp [intOf]; omega
    · have hke : k = s.size := by omega
      have HR : Hid (RunTo p s 0 k) := ⟨Nat.zero_le _, hk, fun j hj _ hjk => HD.out j hj hjk, fun h => absurd h hlt⟩
      have hb : decide ((k : Int) < s.size) = false := by simp; omega
      clear HD HH hke
      go_wp2_with fail
      go_ret
      exact ⟨k, rfl, HR, rfl⟩

theorem enters_isDigit : ∀ args w, (callFunc 131 args).run Try.prog w = .ok (.enter 131 args) w := enters_of Try.func131 (by kernel_rfl) rfl
theorem enters_isAtomByte : ∀ args w, (callFunc 119 args).run Try.prog w = .ok (.enter 119 args) w := enters_of Try.func119 (by kernel_rfl) rfl
theorem enters_isNameByte : ∀ args w, (callFunc 110 args).run Try.prog w = .ok (.enter 110 args) w := enters_of Try.func110 (by kernel_rfl) rfl
theorem runDigits : ∀ (s : ByteArray) (w : World), s.size ≤ 9223372036854775807 → Calls Try.prog 109 #[.string s, .func (.func 131) #[] #[]] w fun e w' => ∃ k : Nat, e = .returned (.int .i64 k) ∧ Hid (RunTo dgB s 0 k) ∧ w = w' := runSize_any 131 dgB enters_isDigit (fun x w _ _ => isDigit_any x w)
theorem runAtom : ∀ (s : ByteArray) (w : World), s.size ≤ 9223372036854775807 → Calls Try.prog 109 #[.string s, .func (.func 119) #[] #[]] w fun e w' => ∃ k : Nat, e = .returned (.int .i64 k) ∧ Hid (RunTo atB s 0 k) ∧ w = w' := runSize_any 119 atB enters_isAtomByte (fun x w _ _ => isAtomByte_any x w)
theorem runName : ∀ (s : ByteArray) (w : World), s.size ≤ 9223372036854775807 → Calls Try.prog 109 #[.string s, .func (.func 110) #[] #[]] w fun e w' => ∃ k : Nat, e = .returned (.int .i64 k) ∧ Hid (RunTo nmB s 0 k) ∧ w = w' := runSize_any 110 nmB enters_isNameByte (fun x w _ _ => isNameByte_any x w)

/-- A byte that a name may have at place i. -/
def NmOk (i : Nat) (x : Int) : Prop := lgB x = true ∨ (i ≠ 0 ∧ (smB x = true ∨ dgB x = true))

/-- A name. -/
def NameP (s : ByteArray) : Prop := (∀ (i : Nat) (h : i < s.size), NmOk i (s[i].toNat : Int)) ∧ 1 ≤ s.size ∧ s.size ≤ 20

theorem nmB_iff (x : Int) : nmB x = true ↔ lgB x = true ∨ smB x = true ∨ dgB x = true := by
  simp only [nmB, atB, lgB, smB, dgB, Bool.or_eq_true, decide_eq_true_eq, beq_iff_eq]
  constructor <;> intro h <;> omega

theorem nameP_iff (s : ByteArray) (h0 : 0 < s.size) : NameP s ↔ s.size ≤ 20 ∧ lgB (s[0].toNat : Int) = true ∧ RunTo nmB s 0 s.size := by
  constructor
  · rintro ⟨h1, h2, h3⟩
    refine ⟨h3, ?_, Nat.zero_le _, Nat.le_refl _, fun j hj _ _ => ?_, fun h => absurd h (Nat.lt_irrefl _)⟩
    · rcases h1 0 h0 with h | h
      · exact h
      · exact absurd rfl h.1
    · rw [nmB_iff]
      rcases h1 j hj with h | h
      · exact .inl h
      · exact .inr h.2
  · rintro ⟨h1, h2, _, _, h3, _⟩
    refine ⟨fun i hi => ?_, h0, h1⟩
    by_cases hi0 : i = 0
    · subst hi0; exact .inl h2
    · rcases (nmB_iff _).1 (h3 i hi (Nat.zero_le _) hi) with h | h
      · exact .inl h
      · exact .inr ⟨hi0, h⟩

end Go.Proofs.Ytpokheklplcamaa

/- Names and runs, the model's; names, the program's. -/
namespace Go.Proofs.Ytpokheklplcamaa
open Go.RowKit
set_option linter.unusedVariables false

set_option maxHeartbeats 1000000 in
theorem specVarOk_any (s : ByteArray) (w : World) (hs : s.size ≤ 9223372036854775807) :
    Calls Try.prog 102 #[.string s] w fun e w' => ∃ b : Bool, e = .returned (.bool b) ∧ (b = true ↔ NameP s) ∧ w = w' := by
  go_enter Try.func102, Try.ntmps102
  go_wp2_with fail
  go_loop [3] (fun i => ∃ k : Nat, k ≤ s.size ∧ i = .int .i64 k ∧ Hid (∀ (j : Nat) (h : j < s.size), j < k → NmOk j (s[j].toNat : Int))) (fun i => s.size - (intOf i).toNat)
  case atStart => exact ⟨0, Nat.zero_le _, rfl, fun j _ hj => by omega⟩
  case round =>
    obtain ⟨k, hk, rfl, HD⟩ := hrel
    by_cases hlt : k < s.size
    · obtain ⟨x, hx⟩ : ∃ x, (s[k].toNat : Int) = x := ⟨_, rfl⟩
      have HX : Hid ((s[k].toNat : Int) = x) := hx
      have hx0 : 0 ≤ x := by omega
      have hx1 : x ≤ 255 := by have := s[k].toNat_lt; omega
      have hG := specLarge_any x w hx0 hx1
      have hS := specSmall_any x w hx0 hx1
      have hDg := specDigit_any x w hx0 hx1
      have HN : Hid (NmOk k x → ∀ (j : Nat) (h : j < s.size), j < k + 1 → NmOk j (s[j].toNat : Int)) := fun hc j hj hjk => by
        by_cases h : j < k
        · exact HD.out j hj h
        · obtain rfl : j = k := by omega
          rw [HX.out]; exact hc
      have HF : Hid (¬ NmOk k x → ¬ NameP s) := fun hc ha => hc (by rw [← HX.out]; exact ha.1 k hlt)
      clear HX HD
      cases hg : lgB x
      · rw [hg] at hG
        by_cases hk0 : k = 0
        · have hb0 : ((k : Int) == 0) = true := by simp [hk0]
          have HR : Hid (¬ NameP s) := HF.out (fun h => by rcases h with h | h; rw [hg] at h; cases h; exact h.1 hk0)
          clear HF HN hg hk0 hS hDg
          go_wp2_with (go_at_call 115; refine hG.mono ?_; rintro e w' ⟨rfl, rfl⟩)
          go_ret
          exact ⟨false, rfl, iff_no HR.out, rfl⟩
        · have hb0 : ((k : Int) == 0) = false := by simp [hk0]
          cases hsm : smB x
          · rw [hsm] at hS
            cases hd : dgB x
            · rw [hd] at hDg
              have HR : Hid (¬ NameP s) := HF.out (fun h => by
                rcases h with h | ⟨_, h | h⟩
                · rw [hg] at h; cases h
                · rw [hsm] at h; cases h
                · rw [hd] at h; cases h)
              clear HF HN hg hk0 hsm hd
              go_wp2_with (first | (go_at_call 115; refine hG.mono ?_; rintro e w' ⟨rfl, rfl⟩) | (go_at_call 116; refine hS.mono ?_; rintro e w' ⟨rfl, rfl⟩) | (go_at_call 117; refine hDg.mono ?_; rintro e w' ⟨rfl, rfl⟩))
              go_ret
              exact ⟨false, rfl, iff_no HR.out, rfl⟩
            · rw [hd] at hDg
              have HR : Hid (∀ (j : Nat) (h : j < s.size), j < k + 1 → NmOk j (s[j].toNat : Int)) := HN.out (.inr ⟨hk0, .inr hd⟩)
              clear HF HN hg hk0 hsm hd
              go_wp2_with (first | (go_at_call 115; refine hG.mono ?_; rintro e w' ⟨rfl, rfl⟩) | (go_at_call 116; refine hS.mono ?_; rintro e w' ⟨rfl, rfl⟩) | (go_at_call 117; refine hDg.mono ?_; rintro e w' ⟨rfl, rfl⟩))
              go_round
              case rel => exact ⟨k + 1, by omega, by go_num, HR⟩
              case measure => simp [intOf]; omega
          · rw [hsm] at hS
            have HR : Hid (∀ (j : Nat) (h : j < s.size), j < k + 1 → NmOk j (s[j].toNat : Int)) := HN.out (.inr ⟨hk0, .inl hsm⟩)
            clear HF HN hg hk0 hsm hDg
            go_wp2_with (first | (go_at_call 115; refine hG.mono ?_; rintro e w' ⟨rfl, rfl⟩) | (go_at_call 116; refine hS.mono ?_; rintro e w' ⟨rfl, rfl⟩))
            go_round
            case rel => exact ⟨k + 1, by omega, by go_num, HR⟩
            case measure => simp [intOf]; omega
      · rw [hg] at hG
        have HR : Hid (∀ (j : Nat) (h : j < s.size), j < k + 1 → NmOk j (s[j].toNat : Int)) := HN.out (.inl hg)
        clear HF HN hg hS hDg
        go_wp2_with (go_at_call 115; refine hG.mono ?_; rintro e w' ⟨rfl, rfl⟩)
        go_round
        case rel => exact ⟨k + 1, by omega, by go_num, HR⟩
        case measure => simp [intOf]; omega
    · have hL := specIn_any s.size 1 20 w
      go_wp2_with fail
      refine hL.mono ?_
      clear hL
      rintro e w' ⟨rfl, rfl⟩
      have HF : Hid ((decide (1 ≤ (s.size : Int)) && decide ((s.size : Int) ≤ 20)) = true ↔ NameP s) := by
        show _ ↔ _
        rw [Bool.and_eq_true, decide_eq_true_iff, decide_eq_true_iff]
        exact ⟨fun h => ⟨fun j hj => HD.out j hj (by omega), by omega, by omega⟩, fun h => ⟨by have := h.2.1; omega, by have := h.2.2; omega⟩⟩
      go_wp2
      go_ret
      exact ⟨_, rfl, HF.out, rfl⟩

set_option maxHeartbeats 1000000 in
theorem nameOk_any (s : ByteArray) (w : World) (hs : s.size ≤ 9223372036854775807) :
    Calls Try.prog 94 #[.string s] w fun e w' => ∃ b : Bool, e = .returned (.bool b) ∧ (b = true ↔ NameP s) ∧ w = w' := by
  by_cases h0 : s.size = 0
  · have HF : Hid (¬ NameP s) := fun h => by have := h.2.1; omega
    have he := (empty_iff s).2 h0
    clear h0
    go_enter Try.func94, Try.ntmps94
    go_wp2_with fail
    go_ret
    exact ⟨false, rfl, iff_no HF.out, rfl⟩
  have he := empty_no h0
  by_cases h1 : s.size ≤ 20
  case neg =>
    have HF : Hid (¬ NameP s) := fun h => by have := h.2.2; omega
    have hb : decide ((s.size : Int) ≤ 20) = false := by simp; omega
    clear h0 h1 hs
    go_enter Try.func94, Try.ntmps94
    go_wp2_with fail
    go_ret
    exact ⟨false, rfl, iff_no HF.out, rfl⟩
  have hlt0 : 0 < s.size := by omega
  have HI := nameP_iff s hlt0
  obtain ⟨x0, hx0⟩ : ∃ x, (s[0].toNat : Int) = x := ⟨_, rfl⟩
  rw [hx0] at HI
  have HII : Hid (NameP s ↔ s.size ≤ 20 ∧ lgB x0 = true ∧ RunTo nmB s 0 s.size) := HI
  clear HI
  have hL := beginsName_any x0 w
  cases hg : lgB x0
  · rw [hg] at hL
    have HF : Hid (¬ NameP s) := fun h => by have := (HII.out.1 h).2.1; rw [hg] at this; cases this
    clear hg HII
    go_enter Try.func94, Try.ntmps94
    go_wp2_with (go_at_call 108; refine hL.mono ?_; rintro e w' ⟨rfl, rfl⟩)
    go_ret
    exact ⟨false, rfl, iff_no HF.out, rfl⟩
  · rw [hg] at hL
    have hR := runName s w hs
    have HF : Hid (∀ k : Nat, RunTo nmB s 0 k → (((k : Int) == (s.size : Int)) = true ↔ NameP s)) := fun k hk => by
      rw [HII.out]
      constructor
      · intro h
        have : k = s.size := by have := (beq_iff_eq).1 h; omega
        exact ⟨h1, hg, by rw [← this]; exact hk⟩
      · intro h
        have := hk.unique h.2.2
        rw [this]; simp
    clear hg HII
    go_enter Try.func94, Try.ntmps94
    go_wp2_with (go_at_call 108; refine hL.mono ?_; rintro e w' ⟨rfl, rfl⟩)
    refine hR.mono ?_
    clear hR
    rintro e w' ⟨k, rfl, HK, rfl⟩
    have HB := HF.out k HK.out
    have HBB : Hid (((k : Int) == (s.size : Int)) = true ↔ NameP s) := HB
    clear HB HF HK
    go_wp2_with fail
    go_ret
    exact ⟨_, rfl, HBB.out, rfl⟩

end Go.Proofs.Ytpokheklplcamaa
