/- Who goes with a kid: the program's. -/
import Derived.Test.YtkfpfijblflcfaaIm
import Derived.Test.YtkfpfijblflcfaaIo
namespace Go.Proofs.Ytkfpfijblflcfaa
open Go.RowKit
set_option linter.unusedVariables false

def tabI : List IEnt := [(1, .func (.func 47) #[] #[]), (2, .func (.func 48) #[] #[]), (3, .func (.func 49) #[] #[])]

set_option maxRecDepth 100000 in
set_option maxHeartbeats 4000000 in
theorem takings_any (w : World) : Calls Try.prog 27 #[] w fun e w' => e = .returned (.map (some w.heap.size)) ∧ IT w w' tabI := by
  have hmf : ∀ (fn : Fn) (first cap : Array Value) (w : World), (Instr.makeFunc fn first cap).run Try.prog w = .ok (.func fn first cap) w := fun _ _ _ _ => rfl
  have hmm := @run_makeMap Try.prog
  obtain ⟨V1, m1, S1⟩ := (IT.made w).step (t := 55) (e := 53) Try.underlying55 1 rfl (.func (.func 47) #[] #[])
  obtain ⟨V2, m2, S2⟩ := S1.step (t := 55) (e := 53) Try.underlying55 2 rfl (.func (.func 48) #[] #[])
  obtain ⟨V3, m3, S3⟩ := S2.step (t := 55) (e := 53) Try.underlying55 3 rfl (.func (.func 49) #[] #[])
  have HS : Hid (IT w V3 tabI) := S3
  clear S1 S2 S3
  go_enter Try.func27, Try.ntmps27
  go_wp2_with fail
  go_ret
  exact ⟨rfl, HS.out⟩

set_option maxRecDepth 100000 in
set_option maxHeartbeats 4000000 in
theorem places_any (f t : Int) (w : World) (h0 : 0 ≤ f) (h1 : f ≤ t) (h2 : t ≤ 100) : Calls Try.prog 68 #[.int .i64 f, .int .i64 t] w fun e w' => IoRes (rngI f (t - f).toNat) w e w' := by
  obtain ⟨n, hn⟩ : ∃ n : Nat, t = f + (n : Int) := ⟨(t - f).toNat, by omega⟩
  subst hn
  rw [show (f + (n : Int) - f).toNat = n by omega]
  have hn1 : n ≤ 100 := by omega
  go_enter Try.func68, Try.ntmps68
  go_wp2_with fail
  go_loopw [5, 6] (fun v i wr => ∃ k : Nat, k ≤ n ∧ i = .int .i64 (f + (k : Int)) ∧ Hid (IoW w.heap.size wr v (rngI f k) ∧ Below w.heap.size w wr)) (fun _ i _ => n - (intOf i - f).toNat)
  case atStart => exact ⟨0, Nat.zero_le _, by simp, IoW.nil _ _, Below.refl _ _⟩
  case round =>
    obtain ⟨k, hk, rfl, HM⟩ := hrel
    by_cases hkn : k < n
    · obtain ⟨i0, hi, hz0, hz1, hz2⟩ := info_parts Try.infoInt
      have hlt : f + (k : Int) < f + (n : Int) := by omega
      have hrow : wr.ownsRow w.heap.size 3 1 u5 k ((rngI f k).map (Value.int .i64)) := by have := HM.out.1; unfold IoW at this; rw [rngI_len] at this; exact this
      have hws := HM.out.2.size
      go_wp2_with (at_builtin; refine wpList_append_own _ rfl _ _ 25 rfl w.heap.size 3 i0 (.int .i64 0) 1 8 Try.underlying25 hi hz0 hz1 hz2 rfl (by decide) _ _ _ rfl (hrow.alloc _) ⟨wr.heap.size, 0, none⟩ 1 1 [.int .i64 (f + (k : Int))] rfl rfl (int_new _) (int_one _) (by unfold maxLen; omega) (by omega) (by simp; omega) ?_)
      intro v' w' ho hg _
      have HN : Hid (IoW w.heap.size w' v' (rngI f (k + 1)) ∧ Below w.heap.size w w') := by
        show _ ∧ _
        rw [rngI_succ]
        exact HM.out.1.next HM.out.2 hws (by rw [rngI_len]; exact ho) hg
      clear HM hrow ho hg
      go_wp2_with fail
      go_roundw
      case rel => exact ⟨k + 1, by omega, by go_num, HN⟩
      case measure => simp [intOf]; omega
    · obtain rfl : k = n := by omega
      have HF : Hid (IoRes (rngI f k) w (.returned u5) wr) := HM.out.1.res HM.out.2
      clear HM
      go_wp2_with fail
      go_ret
      exact HF.out

theorem one_any (n i : Int) (w : World) (h0 : 0 ≤ i) (h1 : i < n) (h2 : n ≤ 100) : Calls Try.prog 47 #[.int .i64 n, .int .i64 i] w fun e w' => IoRes [i] w e w' := by
  have hC := places_any i (i + 1) w h0 (by omega) (by omega)
  rw [show (i + 1 - i).toNat = 0 + 1 by omega, rngI_succ, rngI_zero, List.nil_append] at hC
  rw [show i + ((0 : Nat) : Int) = i by simp] at hC
  have HI : Hid (0 ≤ i ∧ i < n ∧ n ≤ 100) := ⟨h0, h1, h2⟩
  have hi1 : IntKind.i64.wrap (i + 1) = i + 1 := by rw [IntKind.wrap_i64]; omega
  go_enter Try.func47, Try.ntmps47
  go_wp2_with fail
  refine hC.mono ?_
  rintro e w' h
  obtain ⟨a, c, fp, rfl, h⟩ := h
  go_wp2_with fail
  go_ret
  exact ⟨a, c, fp, rfl, h⟩

theorem all_any (n i : Int) (w : World) (h0 : 0 ≤ i) (h1 : i < n) (h2 : n ≤ 100) : Calls Try.prog 48 #[.int .i64 n, .int .i64 i] w fun e w' => IoRes (rngI 0 n.toNat) w e w' := by
  have hC := places_any 0 n w (by omega) (by omega) (by omega)
  rw [show (n - 0).toNat = n.toNat by omega] at hC
  go_enter Try.func48, Try.ntmps48
  go_wp2_with fail
  refine hC.mono ?_
  rintro e w' h
  obtain ⟨a, c, fp, rfl, h⟩ := h
  go_wp2_with fail
  go_ret
  exact ⟨a, c, fp, rfl, h⟩

theorem rest_any (n i : Int) (w : World) (h0 : 0 ≤ i) (h1 : i < n) (h2 : n ≤ 100) : Calls Try.prog 49 #[.int .i64 n, .int .i64 i] w fun e w' => IoRes (rngI i (n - i).toNat) w e w' := by
  have hC := places_any i n w (by omega) (by omega) (by omega)
  go_enter Try.func49, Try.ntmps49
  go_wp2_with fail
  refine hC.mono ?_
  rintro e w' h
  obtain ⟨a, c, fp, rfl, h⟩ := h
  go_wp2_with fail
  go_ret
  exact ⟨a, c, fp, rfl, h⟩

/-- Who goes with a kid. -/
def whomL (way n i : Int) : List Int := if 1 ≤ n ∧ n ≤ 100 ∧ 0 ≤ i ∧ i < n then (if way = 1 then [i] else if way = 2 then rngI 0 n.toNat else if way = 3 then rngI i (n - i).toNat else []) else []

theorem IoRes.later {l : List Int} {w v : World} {e : Ending} {w' : World} (h : IoRes l v e w') (hb : Below w.heap.size w v) : IoRes l w e w' := by
  obtain ⟨a, c, fp, rfl, h2, h3⟩ := h
  exact ⟨a, c, fp, rfl, ⟨h2.out.1, h2.out.2.1, fun g hg => ⟨Nat.le_trans hb.size (h2.out.2.2 g hg).1, (h2.out.2.2 g hg).2⟩⟩, hb.trans (h3.mono hb.size)⟩

set_option maxRecDepth 100000 in
set_option maxHeartbeats 4000000 in
theorem implWhom_any (way n i : Int) (w : World) : Calls Try.prog 11 #[.int .i64 way, .int .i64 n, .int .i64 i] w fun e w' => IoRes (whomL way n i) w e w' := by
  by_cases hok : 1 ≤ n ∧ n ≤ 100 ∧ 0 ≤ i ∧ i < n
  case neg =>
    have HF : Hid (IoRes (whomL way n i) w (.returned (.slice none 0 0)) w) := by
      show IoRes _ _ _ _
      unfold whomL
      rw [if_neg hok]
      exact .none (Below.refl _ _)
    by_cases c1 : n < 1
    · go_enter Try.func11, Try.ntmps11
      go_wp2_with fail
      go_ret
      exact HF.out
    · by_cases c2 : n > 100
      · have c2' : 100 < n := c2
        go_enter Try.func11, Try.ntmps11
        go_wp2_with fail
        go_ret
        exact HF.out
      · by_cases c3 : i < 0
        · have c2' : ¬ 100 < n := c2
          go_enter Try.func11, Try.ntmps11
          go_wp2_with fail
          go_ret
          exact HF.out
        · have c2' : ¬ 100 < n := c2
          have c4 : n ≤ i := by omega
          go_enter Try.func11, Try.ntmps11
          go_wp2_with fail
          go_ret
          exact HF.out
  obtain ⟨h1, h2, h3, h4⟩ := hok
  have c1 : ¬ n < 1 := by omega
  have c2 : ¬ 100 < n := by omega
  have c3 : ¬ i < 0 := by omega
  have c4 : ¬ n ≤ i := by omega
  have HL : Hid (whomL way n i = if way = 1 then [i] else if way = 2 then rngI 0 n.toNat else if way = 3 then rngI i (n - i).toNat else []) := by
    show _ = _
    unfold whomL
    rw [if_pos ⟨h1, h2, h3, h4⟩]
  have H1 : Hid (∀ V : World, _) := fun V => one_any n i V h3 h4 h2
  have H2 : Hid (∀ V : World, _) := fun V => all_any n i V h3 h4 h2
  have H3 : Hid (∀ V : World, _) := fun V => rest_any n i V h3 h4 h2
  have hT := takings_any w
  clear h1 h2 h3 h4
  go_enter Try.func11, Try.ntmps11
  go_wp2_with fail
  refine hT.mono ?_
  clear hT
  rintro e V ⟨rfl, hIT⟩
  have HB : Hid (Below w.heap.size w V) := hIT.bel
  have hz : (zeroValue 53).run Try.prog V = .ok .nilFunc V := by go_simp
  have hL := hIT.mp.look Try.underlying55 way hz
  by_cases e1 : way = 1
  · subst e1
    have hLL : (Instr.lookup 55 (.map (some w.heap.size)) (.int .i64 1) true).run Try.prog V = .ok (.tuple #[.func (.func 47) #[] #[], .bool true]) V := hL
    have HE : Hid (whomL 1 n i = [i]) := by show _ = _; rw [HL.out]; rfl
    clear hL hIT hz HL H2 H3
    go_wp2_with fail
    refine (H1.out V).mono ?_
    rintro e w' h
    have h' := h.later HB.out
    rw [← HE.out] at h'
    obtain ⟨a, c, fp, rfl, h2⟩ := h'
    clear h
    go_wp2_with fail
    go_ret
    exact ⟨a, c, fp, rfl, h2⟩
  · by_cases e2 : way = 2
    · subst e2
      have hLL : (Instr.lookup 55 (.map (some w.heap.size)) (.int .i64 2) true).run Try.prog V = .ok (.tuple #[.func (.func 48) #[] #[], .bool true]) V := hL
      have HE : Hid (whomL 2 n i = rngI 0 n.toNat) := by show _ = _; rw [HL.out]; rfl
      clear hL hIT hz HL H1 H3
      go_wp2_with fail
      refine (H2.out V).mono ?_
      rintro e w' h
      have h' := h.later HB.out
      rw [← HE.out] at h'
      obtain ⟨a, c, fp, rfl, h2⟩ := h'
      clear h
      go_wp2_with fail
      go_ret
      exact ⟨a, c, fp, rfl, h2⟩
    · by_cases e3 : way = 3
      · subst e3
        have hLL : (Instr.lookup 55 (.map (some w.heap.size)) (.int .i64 3) true).run Try.prog V = .ok (.tuple #[.func (.func 49) #[] #[], .bool true]) V := hL
        have HE : Hid (whomL 3 n i = rngI i (n - i).toNat) := by show _ = _; rw [HL.out]; rfl
        clear hL hIT hz HL H1 H2
        go_wp2_with fail
        refine (H3.out V).mono ?_
        rintro e w' h
        have h' := h.later HB.out
        rw [← HE.out] at h'
        obtain ⟨a, c, fp, rfl, h2⟩ := h'
        clear h
        go_wp2_with fail
        go_ret
        exact ⟨a, c, fp, rfl, h2⟩
      · have hn : imget tabI way = none := by simp [imget, tabI, Ne.symm e1, Ne.symm e2, Ne.symm e3]
        have hLL : (Instr.lookup 55 (.map (some w.heap.size)) (.int .i64 way) true).run Try.prog V = .ok (.tuple #[.nilFunc, .bool false]) V := by rw [hn] at hL; exact hL
        have HE : Hid (IoRes (whomL way n i) w (.returned (.slice none 0 0)) V) := by show IoRes _ _ _ _; rw [HL.out, if_neg e1, if_neg e2, if_neg e3]; exact .none HB.out
        clear hL hIT hz HL H1 H2 H3 hn e1 e2 e3
        go_wp2_with fail
        go_ret
        exact HE.out

end Go.Proofs.Ytkfpfijblflcfaa
