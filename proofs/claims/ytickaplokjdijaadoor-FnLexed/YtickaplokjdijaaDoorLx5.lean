/- The program's reading of one token. -/
import Derived.Test.YtickaplokjdijaaDoorLx4
import Derived.Lib.IndexLaws
namespace Go.Proofs.YtickaplokjdijaaDoor
open Go.RowKit
set_option linter.unusedVariables false

theorem clone_any (s : ByteArray) (w : World) (hlim : s.size ≤ 281474976710656) :
    Calls Tryd.prog 65 #[.string s] w fun e w' => e = .returned (.string s) ∧ Below w.heap.size w w' := by
  have hL := Tryd.stringslite_Clone s w hlim
  go_enter Tryd.func65, Tryd.ntmps65
  go_wp2_with fail
  refine hL.mono ?_
  clear hL
  rintro e w' ⟨rfl, hb⟩
  go_wp2_with fail
  go_ret
  exact ⟨rfl, hb⟩

theorem line_run (s : ByteArray) (q : Int) (h : Lib.indexByte s.data.toList 10 = q) : (q < 0 → RunTo nlB s 0 s.size) ∧ (¬ q < 0 → ∃ k : Nat, q = k ∧ RunTo nlB s 0 k) := by
  have hat : ∀ j (hj : j < s.size), s.data.toList[j]? = some s[j] := fun j hj => by
    rw [List.getElem?_eq_getElem (by rw [← Lib.size_eq]; exact hj)]; rfl
  have hnl : ∀ c : UInt8, c ≠ 10 → nlB (c.toNat : Int) = true := fun c hc => by
    have : c.toNat ≠ 10 := fun h => hc (by rw [← UInt8.toNat_inj]; exact h)
    simp only [nlB, Bool.not_eq_true', beq_eq_false_iff_ne, ne_eq]
    omega
  constructor
  · intro hq
    have h1 : Lib.indexByte s.data.toList 10 = -1 := by have := Lib.indexByte_ge s.data.toList 10; omega
    refine ⟨Nat.zero_le _, Nat.le_refl _, fun j hj _ _ => hnl _ fun hc => ?_, fun h => absurd h (Nat.lt_irrefl _)⟩
    exact Lib.indexByte_none h1 j (by rw [hat j hj, hc])
  · intro hq
    obtain ⟨k, hk⟩ : ∃ k : Nat, q = k := ⟨q.toNat, by omega⟩
    rw [hk] at h
    obtain ⟨h1, h2⟩ := Lib.indexByte_some h
    have hks : k < s.size := by
      rw [Lib.size_eq]
      exact (List.getElem?_eq_some_iff.1 h1).1
    refine ⟨k, hk, Nat.zero_le _, by omega, fun j hj _ hjk => hnl _ fun hc => h2 j hjk (by rw [hat j hj, hc]), fun h3 => ?_⟩
    rw [hat k hks] at h1
    have : s[k] = 10 := Option.some.inj h1
    rw [this]; rfl

theorem lineSize_any (s : ByteArray) (w : World) (hs : s.size ≤ 1099511627776) :
    Calls Tryd.prog 31 #[.string s] w fun e w' => ∃ k : Nat, e = .returned (.int .i64 k) ∧ Hid (RunTo nlB s 0 k) ∧ w = w' := by
  have hL := indexByte_any s 10 w
  obtain ⟨q, hq⟩ : ∃ q, Lib.indexByte s.data.toList 10 = q := ⟨_, rfl⟩
  have hR := line_run s q hq
  change Calls _ _ _ _ fun e w' => e = .returned (.int .i64 (Lib.indexByte s.data.toList 10)) ∧ w = w' at hL
  rw [hq] at hL
  clear hq
  by_cases h : q < 0
  · have HR : Hid (RunTo nlB s 0 s.size) := hR.1 h
    clear hR
    go_enter Tryd.func31, Tryd.ntmps31
    go_wp2_with fail
    refine hL.mono ?_
    clear hL
    rintro e w' ⟨rfl, rfl⟩
    go_wp2_with fail
    go_ret
    exact ⟨s.size, rfl, HR, rfl⟩
  · obtain ⟨k, rfl, hk⟩ := hR.2 h
    have HR : Hid (RunTo nlB s 0 k) := hk
    have hb : decide ((k : Int) < 0) = false := by simp
    clear hR hk h
    go_enter Tryd.func31, Tryd.ntmps31
    go_wp2_with fail
    refine hL.mono ?_
    clear hL
    rintro e w' ⟨rfl, rfl⟩
    go_wp2_with fail
    go_ret
    exact ⟨k, rfl, HR, rfl⟩

end Go.Proofs.YtickaplokjdijaaDoor
