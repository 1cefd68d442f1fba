/- Who goes with a kid: the model's. -/
import Derived.Test.YtkfpfijblflcfaaWh1
import Derived.Test.YtkfpfijblflcfaaLo1
namespace Go.Proofs.Ytkfpfijblflcfaa
open Go.RowKit
set_option linter.unusedVariables false

/-- What the model has taken of the first k. -/
def mwL (way i : Int) : Nat → List Int
  | 0 => []
  | k + 1 => mwL way i k ++ (if way = 2 ∨ way = 3 ∧ i ≤ (k : Int) ∨ way = 1 ∧ (k : Int) = i then [(k : Int)] else [])

theorem mwL_two (i : Int) (n : Nat) : mwL 2 i n = rngI 0 n := by
  induction n with
  | zero => rfl
  | succ n ih => rw [mwL, ih, rngI_succ, if_pos (.inl rfl)]; simp
theorem mwL_low (way i : Int) (hw : way = 1 ∨ way = 3) : ∀ n : Nat, (n : Int) ≤ i → mwL way i n = []
  | 0, _ => rfl
  | n + 1, h => by
    rw [mwL, mwL_low way i hw n (by omega), if_neg (by omega)]
    rfl
theorem mwL_three (j m : Nat) : mwL 3 (j : Int) (j + m) = rngI (j : Int) m := by
  induction m with
  | zero => exact mwL_low 3 j (.inr rfl) j (Int.le_refl _)
  | succ m ih => rw [← Nat.add_assoc, mwL, ih, rngI_succ, if_pos (by omega)]; simp
theorem mwL_one (j m : Nat) : mwL 1 (j : Int) (j + 1 + m) = [(j : Int)] := by
  induction m with
  | zero => rw [Nat.add_zero, mwL, mwL_low 1 j (.inl rfl) j (Int.le_refl _), if_pos (by omega)]; rfl
  | succ m ih => rw [← Nat.add_assoc, mwL, ih, if_neg (by omega)]; rfl
theorem mwL_none (way i : Int) (h1 : way ≠ 1) (h2 : way ≠ 2) (h3 : way ≠ 3) (n : Nat) : mwL way i n = [] := by
  induction n with
  | zero => rfl
  | succ n ih => rw [mwL, ih, if_neg (by omega)]; rfl
theorem whom_eq (way n i : Int) (h1 : 1 ≤ n) (h2 : n ≤ 100) (h3 : 0 ≤ i) (h4 : i < n) : mwL way i n.toNat = whomL way n i := by
  unfold whomL
  rw [if_pos ⟨h1, h2, h3, h4⟩]
  obtain ⟨j, rfl⟩ : ∃ j : Nat, i = (j : Int) := ⟨i.toNat, by omega⟩
  by_cases e1 : way = 1
  · subst e1
    rw [if_pos rfl, show n.toNat = j + 1 + (n.toNat - j - 1) by omega]
    exact mwL_one j _
  rw [if_neg e1]
  by_cases e2 : way = 2
  · subst e2
    rw [if_pos rfl]
    exact mwL_two _ _
  rw [if_neg e2]
  by_cases e3 : way = 3
  · subst e3
    rw [if_pos rfl, show n.toNat = j + (n - (j : Int)).toNat by omega]
    exact mwL_three j _
  rw [if_neg e3]
  exact mwL_none _ _ e1 e2 e3 _

theorem inI_t {x a b : Int} (h : a ≤ x ∧ x ≤ b) : inI x a b = true := by simp [inI, h.1, h.2]
theorem inI_f {x a b : Int} (h : ¬ (a ≤ x ∧ x ≤ b)) : inI x a b = false := by
  rw [Bool.eq_false_iff]
  intro e
  simp [inI] at e
  exact h e

set_option maxRecDepth 100000 in
set_option maxHeartbeats 4000000 in
theorem specWhom_any (way n i : Int) (w : World) (hn : I64 n) : Calls Try.prog 12 #[.int .i64 way, .int .i64 n, .int .i64 i] w fun e w' => IoRes (whomL way n i) w e w' := by
  obtain ⟨W, hW⟩ : ∃ W, W = w.alloc (.cells #[] 3) := ⟨_, rfl⟩
  have hA : Below w.heap.size w W := by rw [hW]; exact (Below.refl _ _).alloc (Nat.le_refl _) _
  have hE : IoW w.heap.size W (.slice (some ⟨w.heap.size, 0, none⟩) 0 0) [] := by rw [hW]; exact IoW.empty (heap_alloc_new w _) (Nat.le_refl _)
  have hC := inI_any n 1 100 W
  have HA : Hid (IoW w.heap.size W (.slice (some ⟨w.heap.size, 0, none⟩) 0 0) [] ∧ Below w.heap.size w W) := ⟨hE, hA⟩
  rw [hW] at hC
  have HW : Hid (W = _) := hW
  clear hA hE hW
  go_enter Try.func12, Try.ntmps12
  go_wp2_with fail
  refine hC.mono ?_
  clear hC
  rintro e V ⟨rfl, hV⟩
  rw [← HW.out] at hV
  subst hV
  by_cases hok1 : 1 ≤ n ∧ n ≤ 100
  case neg =>
    have hb : inI n 1 100 = false := inI_f hok1
    have HF : Hid (IoRes (whomL way n i) w (.returned (.slice (some ⟨w.heap.size, 0, none⟩) 0 0)) W) := by
      show IoRes _ _ _ _
      unfold whomL
      rw [if_neg (fun h => hok1 ⟨h.1, h.2.1⟩)]
      exact HA.out.1.res HA.out.2
    rw [hb]
    clear hb hok1
    go_wp2_with fail
    go_ret
    exact HF.out
  have hb : inI n 1 100 = true := inI_t hok1
  have hwr : IntKind.i64.wrap (n - 1) = n - 1 := by rw [IntKind.wrap_i64]; omega
  have hC := inI_any i 0 (n - 1) W
  rw [hb]
  clear hb
  go_wp2_with fail
  refine hC.mono ?_
  clear hC
  rintro e V ⟨rfl, hV⟩
  subst hV
  by_cases hok2 : 0 ≤ i ∧ i ≤ n - 1
  case neg =>
    have hb : inI i 0 (n - 1) = false := inI_f hok2
    have HF : Hid (IoRes (whomL way n i) w (.returned (.slice (some ⟨w.heap.size, 0, none⟩) 0 0)) W) := by
      show IoRes _ _ _ _
      unfold whomL
      rw [if_neg (fun h => hok2 ⟨h.2.2.1, by omega⟩)]
      exact HA.out.1.res HA.out.2
    rw [hb]
    clear hb hok2
    go_wp2_with fail
    go_ret
    exact HF.out
  have hb : inI i 0 (n - 1) = true := inI_t hok2
  rw [hb]
  clear hb
  have HE : Hid (mwL way i n.toNat = whomL way n i) := whom_eq way n i hok1.1 hok1.2 hok2.1 (by omega)
  obtain ⟨m, hm⟩ : ∃ m : Nat, n = (m : Int) := ⟨n.toNat, by omega⟩
  subst hm
  have hm1 : m ≤ 100 := by omega
  have HI : Hid (0 ≤ i) := hok2.1
  clear hok1 hok2 hwr
  go_wp2_with fail
  go_loopw [7, 8] (fun v x wr => ∃ k : Nat, k ≤ m ∧ x = .int .i64 (k : Int) ∧ Hid (IoW w.heap.size wr v (mwL way i k) ∧ Below w.heap.size w wr)) (fun _ x _ => m - (intOf x).toNat)
  case atStart => exact ⟨0, Nat.zero_le _, rfl, HA.out.1, HA.out.2⟩
  case round =>
    obtain ⟨k, hk, rfl, HM⟩ := hrel
    by_cases hkm : k < m
    · have hlt : (k : Int) < (m : Int) := by omega
      have hws := HM.out.2.size
      obtain ⟨i0, hi, hz0, hz1, hz2⟩ := info_parts Try.infoInt
      have hrow : wr.ownsRow w.heap.size 3 1 u7 (mwL way i k).length ((mwL way i k).map (Value.int .i64)) := HM.out.1
      have hle : (mwL way i k).length ≤ 100 := by
        refine Nat.le_trans ?_ hm1
        have : ∀ q : Nat, (mwL way i q).length ≤ q := fun q => by
          induction q with
          | zero => exact Nat.le_refl _
          | succ q ih => rw [mwL, List.length_append]; split <;> simp <;> omega
        have := this k
        omega
      by_cases e2 : way = 2
      · subst e2
        have HN : Hid (mwL 2 i (k + 1) = mwL 2 i k ++ [(k : Int)]) := by show _ = _; rw [mwL, if_pos (by omega)]

        go_wp2_with (at_builtin; refine wpList_append_own _ rfl _ _ 25 rfl w.heap.size 3 i0 (.int .i64 0) 1 8 Try.underlying25 hi hz0 hz1 hz2 rfl (by decide) _ _ _ rfl (hrow.alloc _) ⟨wr.heap.size, 0, none⟩ 1 1 [.int .i64 (k : Int)] rfl rfl (int_new _) (int_one _) (by unfold maxLen; omega) (by omega) (by simp; omega) ?_)
        intro v' w' ho hg _
        have HX : Hid (IoW w.heap.size w' v' (mwL 2 i (k + 1)) ∧ Below w.heap.size w w') := by
          show _ ∧ _
          rw [HN.out]
          exact HM.out.1.next HM.out.2 hws ho hg
        clear HM hrow ho hg
        go_wp2_with fail
        go_roundw
        case rel => exact ⟨k + 1, by omega, by go_num, HX⟩
        case measure => simp [intOf]; omega
      by_cases e3 : way = 3
      case pos =>
        subst e3
        by_cases hik : i ≤ (k : Int)
        · have HN : Hid (mwL 3 i (k + 1) = mwL 3 i k ++ [(k : Int)]) := by show _ = _; rw [mwL, if_pos (by omega)]

          go_wp2_with (at_builtin; refine wpList_append_own _ rfl _ _ 25 rfl w.heap.size 3 i0 (.int .i64 0) 1 8 Try.underlying25 hi hz0 hz1 hz2 rfl (by decide) _ _ _ rfl (hrow.alloc _) ⟨wr.heap.size, 0, none⟩ 1 1 [.int .i64 (k : Int)] rfl rfl (int_new _) (int_one _) (by unfold maxLen; omega) (by omega) (by simp; omega) ?_)
          intro v' w' ho hg _
          have HX : Hid (IoW w.heap.size w' v' (mwL 3 i (k + 1)) ∧ Below w.heap.size w w') := by
            show _ ∧ _
            rw [HN.out]
            exact HM.out.1.next HM.out.2 hws ho hg
          clear HM hrow ho hg
          go_wp2_with fail
          go_roundw
          case rel => exact ⟨k + 1, by omega, by go_num, HX⟩
          case measure => simp [intOf]; omega
        · have HX : Hid (IoW w.heap.size wr u7 (mwL 3 i (k + 1)) ∧ Below w.heap.size w wr) := by
            show _ ∧ _
            rw [mwL, if_neg (by omega), List.append_nil]
            exact HM.out

          clear HM hrow
          go_wp2_with fail
          go_roundw
          case rel => exact ⟨k + 1, by omega, by go_num, HX⟩
          case measure => simp [intOf]; omega
      by_cases e1 : way = 1
      case pos =>
        subst e1
        by_cases hik : (k : Int) = i
        · subst hik
          have HN : Hid (mwL 1 (k : Int) (k + 1) = mwL 1 (k : Int) k ++ [(k : Int)]) := by show _ = _; rw [mwL, if_pos (by omega)]

          go_wp2_with (at_builtin; refine wpList_append_own _ rfl _ _ 25 rfl w.heap.size 3 i0 (.int .i64 0) 1 8 Try.underlying25 hi hz0 hz1 hz2 rfl (by decide) _ _ _ rfl (hrow.alloc _) ⟨wr.heap.size, 0, none⟩ 1 1 [.int .i64 (k : Int)] rfl rfl (int_new _) (int_one _) (by unfold maxLen; omega) (by omega) (by simp; omega) ?_)
          intro v' w' ho hg _
          have HX : Hid (IoW w.heap.size w' v' (mwL 1 (k : Int) (k + 1)) ∧ Below w.heap.size w w') := by
            show _ ∧ _
            rw [HN.out]
            exact HM.out.1.next HM.out.2 hws ho hg
          clear HM hrow ho hg
          go_wp2_with fail
          go_roundw
          case rel => exact ⟨k + 1, by omega, by go_num, HX⟩
          case measure => simp [intOf]; omega
        · have HX : Hid (IoW w.heap.size wr u7 (mwL 1 i (k + 1)) ∧ Below w.heap.size w wr) := by
            show _ ∧ _
            rw [mwL, if_neg (by omega), List.append_nil]
            exact HM.out

          clear HM hrow
          go_wp2_with fail
          go_roundw
          case rel => exact ⟨k + 1, by omega, by go_num, HX⟩
          case measure => simp [intOf]; omega
      have HX : Hid (IoW w.heap.size wr u7 (mwL way i (k + 1)) ∧ Below w.heap.size w wr) := by
        show _ ∧ _
        rw [mwL, if_neg (by omega), List.append_nil]
        exact HM.out

      clear HM hrow
      go_wp2_with fail
      go_roundw
      case rel => exact ⟨k + 1, by omega, by go_num, HX⟩
      case measure => simp [intOf]; omega
    · obtain rfl : k = m := by omega
      have HF : Hid (IoRes (whomL way k i) w (.returned u7) wr) := by
        have := HE.out
        simp only [Int.toNat_natCast] at this
        rw [← this]
        exact HM.out.1.res HM.out.2
      clear HM
      have hkl : ¬ (k : Int) < (k : Int) := by omega
      go_wp2_with fail
      go_ret
      exact HF.out

end Go.Proofs.Ytkfpfijblflcfaa
