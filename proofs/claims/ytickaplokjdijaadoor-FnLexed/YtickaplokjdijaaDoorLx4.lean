/- The token that begins at a place: the model's reading. -/
import Derived.Test.YtickaplokjdijaaDoorLx3
namespace Go.Proofs.YtickaplokjdijaaDoor
open Go.RowKit
set_option linter.unusedVariables false

/-- What the model's reading of one token hands on. -/
def OneS (s : ByteArray) (i : Nat) (w : World) (e : Ending) (w' : World) : Prop :=
  ∃ (k n : Int) (S : ByteArray) (q : Nat), e = .returned (.tuple #[.agg #[.int .i64 k, .int .i64 n, .string S], .int .i64 q]) ∧ OneR s i k n S q ∧ q ≤ s.size ∧ i < q ∧ S.size ≤ s.size ∧ Below w.heap.size w w'

theorem ex_le (s : ByteArray) (i e : Nat) : (s.extract i e).size ≤ s.size := by rw [ByteArray.size_extract]; omega

theorem ex_two {s : ByteArray} {i : Nat} (hi : i + 1 < s.size) : MarkP (s.extract i (i + 2)) ↔ mkn (s.data.toList.drop i) = 2 := by
  have hd : (s.extract i (i + 2)).data.toList = (s.data.toList.drop i).take 2 := by rw [Lib.extract_data, Nat.add_sub_cancel_left]
  have hl : 2 ≤ (s.data.toList.drop i).length := by rw [List.length_drop, ← Lib.size_eq]; omega
  unfold MarkP mkn
  rw [hd]
  generalize s.data.toList.drop i = l at hl ⊢
  match l, hl with
  | a :: b :: r, _ =>
    have e1 := pre2 (a :: b :: r) 45 62
    have e2 := pre2 (a :: b :: r) 61 61
    constructor
    · rintro (h | h | ⟨c, _, h⟩)
      · rw [if_pos (.inl (e1.2 ⟨r, by simp at h ⊢; exact h⟩))]
      · rw [if_pos (.inr (e2.2 ⟨r, by simp at h ⊢; exact h⟩))]
      · simp at h
    · intro h
      split at h
      · rename_i hc
        rcases hc with hc | hc
        · obtain ⟨r', hr⟩ := e1.1 hc
          exact .inl (by simp at hr ⊢; exact ⟨hr.1, hr.2.1⟩)
        · obtain ⟨r', hr⟩ := e2.1 hc
          exact .inr (.inl (by simp at hr ⊢; exact ⟨hr.1, hr.2.1⟩))
      · split at h <;> omega

theorem short_two {s : ByteArray} {i : Nat} (hi : i < s.size) (h : ¬ i + 1 < s.size) : ¬ mkn (s.data.toList.drop i) = 2 := fun h2 => by
  have := mkn_le _ (drop_ne hi)
  rw [List.length_drop, ← Lib.size_eq] at this
  omega

theorem oneR_mk1 {s : ByteArray} {i : Nat} (hi : i < s.size) (g1 : dgB (s[i].toNat : Int) = false) (g2 : smB (s[i].toNat : Int) = false) (g3 : lgB (s[i].toNat : Int) = false) (hm : ¬ mkn (s.data.toList.drop i) = 2) : OneR s i 4 0 (s.extract i (i + 1)) (i + 1) := by
  obtain ⟨r1, r2⟩ := mkn_range (s.data.toList.drop i)
  by_cases h1 : mkn (s.data.toList.drop i) = 1
  · exact oneR_mk (m := 1) hi g1 g2 g3 (by rw [h1]; rfl)
  · have h0 : mkn (s.data.toList.drop i) = 0 := by omega
    obtain ⟨_, hn⟩ := one_mk hi g1 g2 g3
    refine ⟨fun g => ?_, fun _ => hn (by omega)⟩
    rw [tokP4] at g
    exfalso
    have hd : (s.extract i (i + 1)).data.toList = (s.data.toList.drop i).take 1 := by rw [Lib.extract_data, Nat.add_sub_cancel_left]
    have hne := drop_ne hi
    have hM := g.1
    unfold MarkP at hM
    rw [hd] at hM
    unfold mkn at h0
    generalize s.data.toList.drop i = l at h0 hne hM
    cases l with
    | nil => exact hne rfl
    | cons c r =>
      split at h0
      · omega
      · split at h0
        · omega
        · rename_i hc
          rcases hM with h | h | ⟨d, hd, h⟩
          · simp at h
          · simp at h
          · simp at h
            subst h
            exact hc (by simpa using hd)

set_option maxHeartbeats 2000000 in
theorem specOne_any (s : ByteArray) (i : Nat) (w : World) (hi : i < s.size) (hs : s.size ≤ 1099511627776) :
    Calls Tryd.prog 43 #[.string s, .int .i64 i] w (OneS s i w) := by
  obtain ⟨x, hx⟩ : ∃ x, (s[i].toNat : Int) = x := ⟨_, rfl⟩
  have HX : Hid ((s[i].toNat : Int) = x) := hx
  have hx0 : 0 ≤ x := by omega
  have hx1 : x ≤ 255 := by have := s[i].toNat_lt; omega
  obtain ⟨W, hW⟩ : ∃ W, W = w.alloc (.cells #[.int .i64 0, .int .i64 0, .string ⟨#[]⟩] 31) := ⟨_, rfl⟩
  have hDg := specDigit_any x W hx0 hx1
  have hS := specSmall_any x W hx0 hx1
  have hG := specLarge_any x W hx0 hx1
  have hR1 := specRunDigits s i W (by omega) (by omega)
  have hR2 := specRunAtom s i W (by omega) (by omega)
  have hR3 := specRunName s i W (by omega) (by omega)
  have hM := specMarkOk_any (s.extract i (i + 2)) W
  rw [hW] at hDg hS hG hR1 hR2 hR3 hM
  clear hW
  cases hd : dgB x
  · rw [hd] at hDg
    cases hsm : smB x
    · rw [hsm] at hS
      cases hg : lgB x
      · rw [hg] at hG
        have HM1 : Hid (¬ mkn (s.data.toList.drop i) = 2 → OneR s i 4 0 (s.extract i (i + 1)) (i + 1)) := fun h => oneR_mk1 hi (by rw [HX.out]; exact hd) (by rw [HX.out]; exact hsm) (by rw [HX.out]; exact hg) h
        have HM2 : Hid (mkn (s.data.toList.drop i) = 2 → OneR s i 4 0 (s.extract i (i + 2)) (i + 2)) := fun h => oneR_mk (m := 2) hi (by rw [HX.out]; exact hd) (by rw [HX.out]; exact hsm) (by rw [HX.out]; exact hg) (by rw [h]; rfl)
        clear hd hsm hg HX hR1 hR2 hR3
        by_cases hi2 : i + 1 < s.size
        · have HE : Hid (MarkP (s.extract i (i + 2)) ↔ mkn (s.data.toList.drop i) = 2) := ex_two hi2
          have hb : decide ((i : Int) + 1 < s.size) = true := by simp; omega
          go_enter Tryd.func43, Tryd.ntmps43
          go_wp2_with (first | (go_at_call 69; refine hDg.mono ?_; rintro e w' ⟨rfl, rfl⟩) | (go_at_call 72; refine hS.mono ?_; rintro e w' ⟨rfl, rfl⟩) | (go_at_call 73; refine hG.mono ?_; rintro e w' ⟨rfl, rfl⟩))
          refine hM.mono ?_
          clear hM hDg hS hG
          rintro e w' ⟨b, rfl, hb2, rfl⟩
          cases b
          · have HOR : Hid (OneR s i 4 0 (s.extract i (i + 1)) (i + 1)) := HM1.out fun h => by have := hb2.2 (HE.out.2 h); cases this
            clear hb2 HM1 HM2 HE
            go_wp2_with fail
            refine bodyPost_ret (v := .tuple #[.agg #[.int .i64 4, .int .i64 0, .string (s.extract i (i + 1))], .int .i64 ((i : Int) + 1)]) (by first | (simp [results, Tryd.results43, go_sem]; done) | (simp [results, Tryd.results43, go_sem]; rfl)) rfl ⟨4, 0, (s.extract i (i + 1)), i + 1, rfl, HOR.out, by omega, by omega, ex_le .., ?_⟩
            exact (Below.refl _ _).alloc (Nat.le_refl _) _
          · have HOR : Hid (OneR s i 4 0 (s.extract i (i + 2)) (i + 2)) := HM2.out (HE.out.1 (hb2.1 rfl))
            clear hb2 HM1 HM2 HE
            go_wp2_with fail
            refine bodyPost_ret (v := .tuple #[.agg #[.int .i64 4, .int .i64 0, .string (s.extract i (i + 2))], .int .i64 ((i : Int) + 2)]) (by first | (simp [results, Tryd.results43, go_sem]; done) | (simp [results, Tryd.results43, go_sem]; rfl)) rfl ⟨4, 0, (s.extract i (i + 2)), i + 2, rfl, HOR.out, by omega, by omega, ex_le .., ?_⟩
            exact (Below.refl _ _).alloc (Nat.le_refl _) _
        · have HOR : Hid (OneR s i 4 0 (s.extract i (i + 1)) (i + 1)) := HM1.out (short_two hi hi2)
          have hb : decide ((i : Int) + 1 < s.size) = false := by simp; omega
          clear HM1 HM2 hM
          go_enter Tryd.func43, Tryd.ntmps43
          go_wp2_with (first | (go_at_call 69; refine hDg.mono ?_; rintro e w' ⟨rfl, rfl⟩) | (go_at_call 72; refine hS.mono ?_; rintro e w' ⟨rfl, rfl⟩) | (go_at_call 73; refine hG.mono ?_; rintro e w' ⟨rfl, rfl⟩))
          refine bodyPost_ret (v := .tuple #[.agg #[.int .i64 4, .int .i64 0, .string (s.extract i (i + 1))], .int .i64 ((i : Int) + 1)]) (by first | (simp [results, Tryd.results43, go_sem]; done) | (simp [results, Tryd.results43, go_sem]; rfl)) rfl ⟨4, 0, (s.extract i (i + 1)), i + 1, rfl, HOR.out, by omega, by omega, ex_le .., ?_⟩
          exact (Below.refl _ _).alloc (Nat.le_refl _) _
      · rw [hg] at hG
        have HK : Hid (∀ k, RunTo nmB s i k → i < k ∧ k ≤ s.size ∧ OneR s i 3 0 (s.extract i k) k) := fun k hk => ⟨hk.lt hi ((nmB_iff _).2 (.inl (by rw [HX.out]; exact hg))), hk.2.1, oneR_lg hi (by rw [HX.out]; exact hg) hk⟩
        clear hd hsm hg HX hR1 hR2 hM
        go_enter Tryd.func43, Tryd.ntmps43
        go_wp2_with (first | (go_at_call 69; refine hDg.mono ?_; rintro e w' ⟨rfl, rfl⟩) | (go_at_call 72; refine hS.mono ?_; rintro e w' ⟨rfl, rfl⟩) | (go_at_call 73; refine hG.mono ?_; rintro e w' ⟨rfl, rfl⟩))
        refine hR3.mono ?_
        clear hR3 hDg hS hG
        rintro e w' ⟨k, rfl, hk, rfl⟩
        obtain ⟨hk1, hk2, hk3⟩ := HK.out k hk.out
        have HOR : Hid (OneR s i 3 0 (s.extract i k) k) := hk3
        clear HK hk hk3
        go_wp2_with fail
        refine bodyPost_ret (v := .tuple #[.agg #[.int .i64 3, .int .i64 0, .string (s.extract i k)], .int .i64 k]) (by first | (simp [results, Tryd.results43, go_sem]; done) | (simp [results, Tryd.results43, go_sem]; rfl)) rfl ⟨3, 0, (s.extract i k), k, rfl, HOR.out, by omega, by omega, ex_le .., ?_⟩
        exact (Below.refl _ _).alloc (Nat.le_refl _) _
    · rw [hsm] at hS
      have HK : Hid (∀ k, RunTo atB s i k → i < k ∧ k ≤ s.size ∧ OneR s i 2 0 (s.extract i k) k) := fun k hk => ⟨hk.lt hi ((atB_iff _).2 (.inl (by rw [HX.out]; simpa [smB] using hsm))), hk.2.1, oneR_sm hi (by rw [HX.out]; exact hsm) hk⟩
      clear hd hsm HX hR1 hR3 hM hG
      go_enter Tryd.func43, Tryd.ntmps43
      go_wp2_with (first | (go_at_call 69; refine hDg.mono ?_; rintro e w' ⟨rfl, rfl⟩) | (go_at_call 72; refine hS.mono ?_; rintro e w' ⟨rfl, rfl⟩))
      refine hR2.mono ?_
      clear hR2 hDg hS
      rintro e w' ⟨k, rfl, hk, rfl⟩
      obtain ⟨hk1, hk2, hk3⟩ := HK.out k hk.out
      have HOR : Hid (OneR s i 2 0 (s.extract i k) k) := hk3
      clear HK hk hk3
      go_wp2_with fail
      refine bodyPost_ret (v := .tuple #[.agg #[.int .i64 2, .int .i64 0, .string (s.extract i k)], .int .i64 k]) (by first | (simp [results, Tryd.results43, go_sem]; done) | (simp [results, Tryd.results43, go_sem]; rfl)) rfl ⟨2, 0, (s.extract i k), k, rfl, HOR.out, by omega, by omega, ex_le .., ?_⟩
      exact (Below.refl _ _).alloc (Nat.le_refl _) _
  · rw [hd] at hDg
    have HK : Hid (∀ k, RunTo dgB s i k → i < k ∧ k ≤ s.size ∧ DigP (s.extract i k) ∧ ∀ n, NumAns (s.extract i k) n → OneR s i 1 n ByteArray.empty k) := fun k hk => ⟨hk.lt hi (by rw [HX.out]; exact hd), hk.2.1, run_dig hi (by rw [HX.out]; exact hd) hk, fun n hn => oneR_dig hi (by rw [HX.out]; exact hd) hk hn⟩
    clear hd HX hR2 hR3 hM hG hS
    go_enter Tryd.func43, Tryd.ntmps43
    go_wp2_with (go_at_call 69; refine hDg.mono ?_; rintro e w' ⟨rfl, rfl⟩)
    refine hR1.mono ?_
    clear hR1 hDg
    rintro e w' ⟨k, rfl, hk, rfl⟩
    obtain ⟨hk1, hk2, hk3, hk4⟩ := HK.out k hk.out
    have HO : Hid (∀ n, NumAns (s.extract i k) n → OneR s i 1 n ByteArray.empty k) := hk4
    have hN := specNumber_any (s.extract i k) (w.alloc (.cells #[.int .i64 0, .int .i64 0, .string ⟨#[]⟩] 31)) hk3 (by have := ex_le s i k; omega)
    clear HK hk hk3 hk4
    go_wp2_with fail
    refine hN.mono ?_
    clear hN
    rintro e w' ⟨n, rfl, hn, rfl⟩
    have HOR : Hid (OneR s i 1 n ByteArray.empty k) := HO.out n hn.out
    clear HO hn
    go_wp2_with fail
    refine bodyPost_ret (v := .tuple #[.agg #[.int .i64 1, .int .i64 n, .string ByteArray.empty], .int .i64 k]) (by first | (simp [results, Tryd.results43, go_sem]; done) | (simp [results, Tryd.results43, go_sem]; rfl)) rfl ⟨1, n, ByteArray.empty, k, rfl, HOR.out, by omega, by omega, Nat.zero_le _, ?_⟩
    exact (Below.refl _ _).alloc (Nat.le_refl _) _

end Go.Proofs.YtickaplokjdijaaDoor
