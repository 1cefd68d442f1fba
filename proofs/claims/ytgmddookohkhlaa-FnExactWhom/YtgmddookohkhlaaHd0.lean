/- What the law reads of its marks on lists of numbers. -/
import Derived.Test.YtgmddookohkhlaaMk0
import Derived.Test.YtgmddookohkhlaaAft
import Derived.BigQuiet
namespace Go.Proofs.Ytgmddookohkhlaa
open Go.RowKit
set_option linter.unusedVariables false

set_option maxHeartbeats 2000000 in
theorem heldInts_any : HdLs 25 1 InR mkI ckI := by
  intro v xs q w hr h0 h1 hm
  obtain ⟨a, c, e, hel⟩ := row_tellI hr
  subst e
  have HE : Hid (∀ (i : Nat) (s : Int), (mkL mkI ckI q xs)[i]? = some s → ∃ b o, a = some ⟨b, o, none⟩ ∧ w.cell? ⟨b, o + i, none⟩ = some (.int .i64 s)) := hel
  have HBB : Hid (q + ((xs.map ckI).sum : Nat) ≤ 1099511627776) := h1
  rw [mkL_len]
  obtain ⟨len, hl⟩ : ∃ len, xs.length = len := ⟨_, rfl⟩
  have HL : Hid (xs.length = len) := hl
  rw [hl] at hm ⊢
  clear hl h1 hr hel
  go_enter Try.func25, Try.ntmps25
  go_wp2_with fail
  go_loopw [1, 5] (fun x i wr => ∃ (j : Nat) (y : Int), j ≤ len ∧ i = .int .i64 j ∧ x = .int .i64 y ∧ Hid (y = q + (sumP ckI xs j : Nat)) ∧ 0 ≤ y ∧ y ≤ 1099511627776 ∧ Below w.heap.size w wr) (fun _ i _ => len - (intOf i).toNat)
  case atStart => exact ⟨0, q, Nat.zero_le _, rfl, rfl, (by show _ = _; rw [sumP_zero']; omega), h0, (by have := HBB.out; omega), Below.refl _ _⟩
  case round =>
    obtain ⟨j, y, hj, rfl, rfl, HY, hy0, hy1, hbw⟩ := hrel
    by_cases hjl : j < len
    · obtain ⟨x, hx⟩ : ∃ x, xs[j]? = some x := ⟨_, List.getElem?_eq_getElem (by rw [HL.out]; exact hjl)⟩
      have hmx : (mkL mkI ckI q xs)[j]? = some y := by rw [mkL_at, hx, ← HY.out]; rfl
      obtain ⟨b, o, rfl, f0⟩ := HE.out j y hmx
      have f1 := cell_later hbw f0
      have hjl' : (j : Int) < (len : Int) := by omega
      have hst := sumP_succ ckI xs j x hx
      have hle := sumP_le ckI xs (j + 1)
      have HNX : Hid (y + 1 = q + (sumP ckI xs (j + 1) : Nat) ∧ y + 1 ≤ 1099511627776) := by
        have e1 : ckI x = 1 := rfl
        have := HY.out; have := HBB.out
        show _ ∧ _
        omega
      clear hst hle hx hmx f0
      go_wp2_with fail
      go_roundw
      case rel => exact ⟨j + 1, y + 1, by omega, by go_num, by go_num, HNX.out.1, by omega, HNX.out.2, hbw⟩
      case measure => simp [intOf]; omega
    · have hjn : xs.length ≤ j := by have := HL.out; omega
      have HF : Hid (y = q + ((xs.map ckI).sum : Nat)) := by
        show _ = _
        rw [HY.out]
        have : sumP ckI xs j = (xs.map ckI).sum := by unfold sumP; rw [List.take_of_length_le hjn]
        rw [this]
      go_wp2_with fail
      go_ret
      exact ⟨tret1 HF.out, hbw⟩

end Go.Proofs.Ytgmddookohkhlaa
