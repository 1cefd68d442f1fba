/- What goes with a kid has it among them, rises, and is it alone, all, or it and those behind, whatever the bytes that the numbers are drawn of: no condition. (The frame round the walk is the guide's own way.) -/
import Derived.Test.YtkfpfijblflcfaaDw1
import Derived.Test.YtkfpfijblflcfaaBig
import Derived.WalkKit
import Derived.Test.YtkfpfijblflcfaaAft
import Derived.BigQuiet
import Derived.ProofKit
import Derived.OpenShut
import Derived.ShutString
import Derived.ChangeOld
import Derived.Below
namespace Go.Proofs.Ytkfpfijblflcfaa.fnWhom
open Go.ChangeShapes Go.WideShapes Go.ChangeAt Go.RowKit
open Go.ChangeMaps (open_string shut_string)
set_option linter.unusedVariables false

theorem own : ownKnob Try.prog.godebug = none := by kernel_rfl
theorem laidOut : laidOutB Try.prog = true := by kernel_rfl

set_option maxRecDepth 100000 in
set_option maxHeartbeats 8000000 in
theorem walk (w : World) (a0 : Option Addr) (len0 cap0 : Nat) (z0 : List Int) (w0 : IsRow .u8 w a0 len0 cap0 z0) :
    Calls Try.prog 4 #[.slice a0 len0 cap0] w fun e w' => e = .returned (.bool true) ∧ Below w.heap.size w w' := by
  by_cases hbig : 1048576 < len0
  · go_enter Try.func4, Try.ntmps4
    go_wp2_with fail
    refine (big_yes a0 len0 cap0 w hbig).mono ?_
    rintro e w' ⟨rfl, rfl⟩
    go_wp2
    go_ret
    exact ⟨rfl, Below.refl _ _⟩
  have hm : len0 ≤ 1048576 := by omega
  have hD := drawWhom_any a0 len0 cap0 z0 w w0 hm
  clear w0
  go_enter Try.func4, Try.ntmps4
  go_wp2_with fail
  refine (big_no a0 len0 cap0 w hm).mono ?_
  rintro e w' ⟨rfl, rfl⟩
  go_wp2_with fail
  refine hD.mono ?_
  clear hD
  rintro e w1 ⟨x, y, z, rfl, ⟨hx, hy, hz⟩, hb1⟩
  have HB1 : Hid (Below w.heap.size w w1) := hb1
  have HXY : Hid (I64 x ∧ I64 y ∧ I64 z) := ⟨hx, hy, hz⟩
  obtain ⟨L, hL⟩ : ∃ L, whomL x y z = L := ⟨_, rfl⟩
  have HL : Hid (whomL x y z = L) := hL
  have hI := implWhom_any x y z w1
  rw [hL] at hI
  clear hb1 hx hy hz hL
  go_wp2_with fail
  refine hI.mono ?_
  clear hI
  rintro e w2 ⟨aG, cG, fpG, rfl, HG, hb2⟩
  have HB2 : Hid (Below w.heap.size w w2) := HB1.out.trans (hb2.mono HB1.out.size)
  have HRG : Hid (∀ V : World, Below w2.heap.size w2 V → RowOf 1 InR V (.slice aG L.length cG) L) := fun V hV => (HG.out.1.rd InO.reads).later InR.lasts hV
  have hS := specWhom_any x y z w2 HXY.out.2.1
  rw [HL.out] at hS
  obtain ⟨n, hn⟩ : ∃ n, L.length = n := ⟨_, rfl⟩
  have HLN : Hid (L.length = n) := hn
  rw [hn] at HRG ⊢
  clear hb2 HG hn
  go_wp2_with fail
  refine hS.mono ?_
  clear hS
  rintro e w3 ⟨aS, cS, fpS, rfl, _, hb3⟩
  rw [HLN.out]
  have HB3 : Hid (Below w.heap.size w w3) := HB2.out.trans (hb3.mono HB2.out.size)
  have HR3 : Hid (RowOf 1 InR w3 (.slice aG n cG) L) := HRG.out w3 hb3
  have hnn : ((n : Int) != (n : Int)) = false := by simp
  clear hb3 HRG
  by_cases hgood : 0 ≤ z ∧ z < y ∧ y ≤ 100 ∧ 1 ≤ x ∧ x ≤ 3
  case neg =>
    have hn0 : n = 0 := by rw [← HLN.out, ← HL.out, whom_nil x y z hgood]; rfl
    subst hn0
    clear HR3
    by_cases c1 : z < 0
    · go_wp2_with fail
      go_ret
      exact ⟨rfl, HB3.out⟩
    by_cases c2 : y ≤ z
    · go_wp2_with fail
      go_ret
      exact ⟨rfl, HB3.out⟩
    by_cases c3 : 100 < y
    · go_wp2_with fail
      go_ret
      exact ⟨rfl, HB3.out⟩
    by_cases c4 : x < 1
    · go_wp2_with fail
      go_ret
      exact ⟨rfl, HB3.out⟩
    have c5 : 3 < x := by omega
    go_wp2_with fail
    go_ret
    exact ⟨rfl, HB3.out⟩
  obtain ⟨g1, g2, g3, g4, g5⟩ := hgood
  have c1 : ¬ z < 0 := by omega
  have c2 : ¬ y ≤ z := by omega
  have c3 : ¬ 100 < y := by omega
  have c4 : ¬ x < 1 := by omega
  have c5 : ¬ 3 < x := by omega
  obtain ⟨lo, m, hW⟩ := wrun x y z g1 g2 g3 g4 g5
  have hLr : L = rngI lo m := HL.out.symm.trans hW.run
  have hnm : n = m := by rw [← HLN.out, hLr, rngI_len]
  subst hnm
  have HW : Hid (WRun x y z lo n) := hW
  have HLR : Hid (L = rngI lo n) := hLr
  have HG1 : Hid (0 ≤ z ∧ z < y ∧ y ≤ 100 ∧ 1 ≤ x ∧ x ≤ 3) := ⟨g1, g2, g3, g4, g5⟩
  have hn1 : 0 < n := by have := hW.has; omega
  obtain ⟨g, o, e8, _⟩ := row_int0 HR3.out 0 (lo + ((0 : Nat) : Int)) (by rw [hLr]; exact rng_at lo n 0 hn1)
  subst e8
  clear hW hLr g1 g2 g3 g4 g5 hn1
  go_wp2_with fail
  clear c1 c2 c3 c4 c5
  go_loopw [7, 8] (fun v u wr => ∃ (k : Nat) (b : Bool), k ≤ n ∧ u = .int .i64 (k : Int) ∧ v = .bool b ∧ Hid (b = true ↔ z < lo + (k : Int)) ∧ Hid (Below w3.heap.size w3 wr)) (fun _ u _ => n - (intOf u).toNat)
  case atStart => exact ⟨0, false, Nat.zero_le _, rfl, rfl, by show _ ↔ _; have := HW.out.has; simp; omega, Below.refl _ _⟩
  case round =>
    obtain ⟨k, b, hk, rfl, rfl, HIN, HBW⟩ := hrel
    by_cases hkn : k < n
    case neg =>
      obtain rfl : k = n := by omega
      have hkk : ¬ (k : Int) < (k : Int) := by omega
      obtain rfl : b = true := HIN.out.2 HW.out.has.2
      have HBF : Hid (Below w.heap.size w wr) := HB3.out.trans (HBW.out.mono HB3.out.size)
      clear HIN HBW HR3
      by_cases e1 : x = 1
      · obtain rfl : k = 1 := HW.out.one e1
        subst e1
        clear HW HLR HG1 HLN
        go_wp2_with fail
        go_ret
        exact ⟨rfl, HBF.out⟩
      by_cases e2 : x = 2
      · obtain rfl : y = (k : Int) := (HW.out.all e2).symm
        subst e2
        clear HW HLR HG1 HLN
        go_wp2_with fail
        go_ret
        exact ⟨rfl, HBF.out⟩
      have e3 : x = 3 := by have := HG1.out; omega
      have hyz := (HW.out.rest e3).2
      have hw1 : IntKind.i64.wrap (y - z) = y - z := by rw [IntKind.wrap_i64]; have := HG1.out; omega
      have hw2 : ((k : Int) == y - z) = true := by simp [hyz]
      subst e3
      clear HW HLR HG1 HLN hyz
      go_wp2_with fail
      go_ret
      exact ⟨rfl, HBF.out⟩
    have hkn' : (k : Int) < (n : Int) := by omega
    have hrr := HR3.out.later InR.lasts HBW.out
    obtain ⟨X, hX⟩ : ∃ X : Int, X = lo + (k : Int) := ⟨_, rfl⟩
    have hLk : L[k]? = some X := by rw [HLR.out, rng_at _ _ _ hkn, hX]
    obtain ⟨g1, o1, e8, c0⟩ := row_int0 hrr k X hLk
    obtain ⟨hg1, ho1⟩ : g1 = g ∧ o1 = o := by simpa [eq_comm] using e8
    rw [hg1, ho1] at c0
    clear e8 hg1 ho1
    have hn100 : n ≤ 100 := by have := HW.out.high; have := HW.out.low; have := HG1.out; omega
    have hn0 := After.some wr
    have p0 := After.cell c0
    have h1 : ¬ X < 0 := by have := HW.out.low; omega
    have h2 : ¬ y ≤ X := by have := HW.out.high; omega
    have hd1 : decide (X < 0) = false := decide_eq_false h1
    have hd2 : decide (y ≤ X) = false := decide_eq_false h2
    have HNX : Hid (z < lo + ((k + 1 : Nat) : Int) ↔ z < X ∨ X = z) := by show _ ↔ _; omega
    have HOX : Hid (z < lo + (k : Int) ↔ z < X) := by show _ ↔ _; omega
    have HX : Hid (X = lo + (k : Int)) := hX
    clear hX hLk
    by_cases hk0 : k = 0
    · have hk1 : ¬ 0 < k := by omega
      have hk2 : decide (0 < k) = false := decide_eq_false hk1
      have HK0 : Hid (k = 0) := hk0
      clear hk0
      by_cases e3 : x = 3
      · have hz3 : decide (X < z) = false := decide_eq_false (by have := (HW.out.rest e3).1; have := HX.out; omega)
        have hx3 : (x == 3) = true := by simp [e3]
        clear e3
        cases b with
        | true =>
          have HNB : Hid (true = true ↔ z < lo + ((k + 1 : Nat) : Int)) := ⟨fun _ => HNX.out.2 (.inl (HOX.out.1 (HIN.out.1 rfl))), fun _ => rfl⟩
          clear HIN
          go_wp2_with fail
          refine wp_region_after (by kernel_rfl) (by kernel_rfl) ?_
          repeat (go_big_quiet_step (fail))
          refine wpQuiet_nil ?_
          rintro _ ⟨nq, rfl⟩
          have HBE : Hid (Below w3.heap.size w3 nq.now) := HBW.out.trans (nq.bel.mono HBW.out.size)
          clear hk1 hk2 hz3 hx3 c0 p0 hn0 hd1 hd2 h1 h2
          go_wp2_with fail
          go_roundw
          case rel => exact ⟨k + 1, true, by omega, by go_num, rfl, by show _ ↔ _; simpa using HNB.out, HBE⟩
          case measure => simp [intOf]; omega
        | false =>
          have hnz : ¬ z < X := fun h => by have := HIN.out.2 (HOX.out.2 h); cases this
          by_cases hxz : X = z
          · have hxb : (X == z) = true := by simp [hxz]
            have HNB : Hid (true = true ↔ z < lo + ((k + 1 : Nat) : Int)) := ⟨fun _ => HNX.out.2 (.inr hxz), fun _ => rfl⟩
            clear HIN hxz hnz
            go_wp2_with fail
            refine wp_region_after (by kernel_rfl) (by kernel_rfl) ?_
            repeat (go_big_quiet_step (fail))
            refine wpQuiet_nil ?_
            rintro _ ⟨nq, rfl⟩
            have HBE : Hid (Below w3.heap.size w3 nq.now) := HBW.out.trans (nq.bel.mono HBW.out.size)
            clear hk1 hk2 hz3 hx3 hxb c0 p0 hn0 hd1 hd2 h1 h2
            go_wp2_with fail
            go_roundw
            case rel => exact ⟨k + 1, true, by omega, by go_num, rfl, by show _ ↔ _; simpa using HNB.out, HBE⟩
            case measure => simp [intOf]; omega
          · have hxb : (X == z) = false := by simp [hxz]
            have HNB : Hid (false = true ↔ z < lo + ((k + 1 : Nat) : Int)) := ⟨fun h => by (cases h), fun h => by rcases HNX.out.1 h with h | h; (exact absurd h hnz); (exact absurd h hxz)⟩
            clear HIN hxz hnz
            go_wp2_with fail
            refine wp_region_after (by kernel_rfl) (by kernel_rfl) ?_
            repeat (go_big_quiet_step (fail))
            refine wpQuiet_nil ?_
            rintro _ ⟨nq, rfl⟩
            have HBE : Hid (Below w3.heap.size w3 nq.now) := HBW.out.trans (nq.bel.mono HBW.out.size)
            clear hk1 hk2 hz3 hx3 hxb c0 p0 hn0 hd1 hd2 h1 h2
            go_wp2_with fail
            go_roundw
            case rel => exact ⟨k + 1, false, by omega, by go_num, rfl, by show _ ↔ _; simpa using HNB.out, HBE⟩
            case measure => simp [intOf]; omega
      · have hx3 : (x == 3) = false := by simp [e3]
        clear e3
        cases b with
        | true =>
          have HNB : Hid (true = true ↔ z < lo + ((k + 1 : Nat) : Int)) := ⟨fun _ => HNX.out.2 (.inl (HOX.out.1 (HIN.out.1 rfl))), fun _ => rfl⟩
          clear HIN
          go_wp2_with fail
          refine wp_region_after (by kernel_rfl) (by kernel_rfl) ?_
          repeat (go_big_quiet_step (fail))
          refine wpQuiet_nil ?_
          rintro _ ⟨nq, rfl⟩
          have HBE : Hid (Below w3.heap.size w3 nq.now) := HBW.out.trans (nq.bel.mono HBW.out.size)
          clear hk1 hk2 hx3 c0 p0 hn0 hd1 hd2 h1 h2
          go_wp2_with fail
          go_roundw
          case rel => exact ⟨k + 1, true, by omega, by go_num, rfl, by show _ ↔ _; simpa using HNB.out, HBE⟩
          case measure => simp [intOf]; omega
        | false =>
          have hnz : ¬ z < X := fun h => by have := HIN.out.2 (HOX.out.2 h); cases this
          by_cases hxz : X = z
          · have hxb : (X == z) = true := by simp [hxz]
            have HNB : Hid (true = true ↔ z < lo + ((k + 1 : Nat) : Int)) := ⟨fun _ => HNX.out.2 (.inr hxz), fun _ => rfl⟩
            clear HIN hxz hnz
            go_wp2_with fail
            refine wp_region_after (by kernel_rfl) (by kernel_rfl) ?_
            repeat (go_big_quiet_step (fail))
            refine wpQuiet_nil ?_
            rintro _ ⟨nq, rfl⟩
            have HBE : Hid (Below w3.heap.size w3 nq.now) := HBW.out.trans (nq.bel.mono HBW.out.size)
            clear hk1 hk2 hx3 hxb c0 p0 hn0 hd1 hd2 h1 h2
            go_wp2_with fail
            go_roundw
            case rel => exact ⟨k + 1, true, by omega, by go_num, rfl, by show _ ↔ _; simpa using HNB.out, HBE⟩
            case measure => simp [intOf]; omega
          · have hxb : (X == z) = false := by simp [hxz]
            have HNB : Hid (false = true ↔ z < lo + ((k + 1 : Nat) : Int)) := ⟨fun h => by (cases h), fun h => by rcases HNX.out.1 h with h | h; (exact absurd h hnz); (exact absurd h hxz)⟩
            clear HIN hxz hnz
            go_wp2_with fail
            refine wp_region_after (by kernel_rfl) (by kernel_rfl) ?_
            repeat (go_big_quiet_step (fail))
            refine wpQuiet_nil ?_
            rintro _ ⟨nq, rfl⟩
            have HBE : Hid (Below w3.heap.size w3 nq.now) := HBW.out.trans (nq.bel.mono HBW.out.size)
            clear hk1 hk2 hx3 hxb c0 p0 hn0 hd1 hd2 h1 h2
            go_wp2_with fail
            go_roundw
            case rel => exact ⟨k + 1, false, by omega, by go_num, rfl, by show _ ↔ _; simpa using HNB.out, HBE⟩
            case measure => simp [intOf]; omega
    · obtain ⟨q, rfl⟩ : ∃ q, k = q + 1 := ⟨k - 1, by omega⟩
      clear hk0
      have hq1 : (0 : Int) < ((q + 1 : Nat) : Int) := by omega
      obtain ⟨Y, hY⟩ : ∃ Y : Int, Y = lo + (q : Int) := ⟨_, rfl⟩
      have hLq : L[q]? = some Y := by rw [HLR.out, rng_at _ _ _ (by omega), hY]
      obtain ⟨g', o', e9, c1⟩ := row_int0 hrr q Y hLq
      obtain ⟨hg1, ho1⟩ : g' = g ∧ o' = o := by simpa [eq_comm] using e9
      rw [hg1, ho1] at c1
      clear e9 hg1 ho1
      have p1 := After.cell c1
      have hw1 : IntKind.i64.wrap (Y + 1) = Y + 1 := by rw [IntKind.wrap_i64]; have := HW.out.high; have := HW.out.low; have := HG1.out; omega
      have hyx : (X != Y + 1) = false := by have := HX.out; simp; omega
      clear hY hLq
      have hq2 : (q : Int) < (n : Int) := by omega
      have hq3 : ((q + 1 : Nat) : Int) - 1 = (q : Int) := by omega
      have hq4 : IntKind.i64.wrap (q : Int) = (q : Int) := by rw [IntKind.wrap_i64]; omega
      by_cases e3 : x = 3
      · have hz3 : decide (X < z) = false := decide_eq_false (by have := (HW.out.rest e3).1; have := HX.out; omega)
        have hx3 : (x == 3) = true := by simp [e3]
        clear e3
        cases b with
        | true =>
          have HNB : Hid (true = true ↔ z < lo + (((q + 1) + 1 : Nat) : Int)) := ⟨fun _ => HNX.out.2 (.inl (HOX.out.1 (HIN.out.1 rfl))), fun _ => rfl⟩
          clear HIN
          go_wp2_with fail
          refine wp_region_after (by kernel_rfl) (by kernel_rfl) ?_
          repeat (go_big_quiet_step (fail))
          refine wpQuiet_nil ?_
          rintro _ ⟨nq, rfl⟩
          have HBE : Hid (Below w3.heap.size w3 nq.now) := HBW.out.trans (nq.bel.mono HBW.out.size)
          clear c1 p1 hyx hz3 hx3 c0 p0 hn0 hd1 hd2 h1 h2
          go_wp2_with fail
          go_roundw
          case rel => exact ⟨(q + 1) + 1, true, by omega, by go_num, rfl, by show _ ↔ _; simpa using HNB.out, HBE⟩
          case measure => simp [intOf]; omega
        | false =>
          have hnz : ¬ z < X := fun h => by have := HIN.out.2 (HOX.out.2 h); cases this
          by_cases hxz : X = z
          · have hxb : (X == z) = true := by simp [hxz]
            have HNB : Hid (true = true ↔ z < lo + (((q + 1) + 1 : Nat) : Int)) := ⟨fun _ => HNX.out.2 (.inr hxz), fun _ => rfl⟩
            clear HIN hxz hnz
            go_wp2_with fail
            refine wp_region_after (by kernel_rfl) (by kernel_rfl) ?_
            repeat (go_big_quiet_step (fail))
            refine wpQuiet_nil ?_
            rintro _ ⟨nq, rfl⟩
            have HBE : Hid (Below w3.heap.size w3 nq.now) := HBW.out.trans (nq.bel.mono HBW.out.size)
            clear c1 p1 hyx hz3 hx3 hxb c0 p0 hn0 hd1 hd2 h1 h2
            go_wp2_with fail
            go_roundw
            case rel => exact ⟨(q + 1) + 1, true, by omega, by go_num, rfl, by show _ ↔ _; simpa using HNB.out, HBE⟩
            case measure => simp [intOf]; omega
          · have hxb : (X == z) = false := by simp [hxz]
            have HNB : Hid (false = true ↔ z < lo + (((q + 1) + 1 : Nat) : Int)) := ⟨fun h => by (cases h), fun h => by rcases HNX.out.1 h with h | h; (exact absurd h hnz); (exact absurd h hxz)⟩
            clear HIN hxz hnz
            go_wp2_with fail
            refine wp_region_after (by kernel_rfl) (by kernel_rfl) ?_
            repeat (go_big_quiet_step (fail))
            refine wpQuiet_nil ?_
            rintro _ ⟨nq, rfl⟩
            have HBE : Hid (Below w3.heap.size w3 nq.now) := HBW.out.trans (nq.bel.mono HBW.out.size)
            clear c1 p1 hyx hz3 hx3 hxb c0 p0 hn0 hd1 hd2 h1 h2
            go_wp2_with fail
            go_roundw
            case rel => exact ⟨(q + 1) + 1, false, by omega, by go_num, rfl, by show _ ↔ _; simpa using HNB.out, HBE⟩
            case measure => simp [intOf]; omega
      · have hx3 : (x == 3) = false := by simp [e3]
        clear e3
        cases b with
        | true =>
          have HNB : Hid (true = true ↔ z < lo + (((q + 1) + 1 : Nat) : Int)) := ⟨fun _ => HNX.out.2 (.inl (HOX.out.1 (HIN.out.1 rfl))), fun _ => rfl⟩
          clear HIN
          go_wp2_with fail
          refine wp_region_after (by kernel_rfl) (by kernel_rfl) ?_
          repeat (go_big_quiet_step (fail))
          refine wpQuiet_nil ?_
          rintro _ ⟨nq, rfl⟩
          have HBE : Hid (Below w3.heap.size w3 nq.now) := HBW.out.trans (nq.bel.mono HBW.out.size)
          clear c1 p1 hyx hx3 c0 p0 hn0 hd1 hd2 h1 h2
          go_wp2_with fail
          go_roundw
          case rel => exact ⟨(q + 1) + 1, true, by omega, by go_num, rfl, by show _ ↔ _; simpa using HNB.out, HBE⟩
          case measure => simp [intOf]; omega
        | false =>
          have hnz : ¬ z < X := fun h => by have := HIN.out.2 (HOX.out.2 h); cases this
          by_cases hxz : X = z
          · have hxb : (X == z) = true := by simp [hxz]
            have HNB : Hid (true = true ↔ z < lo + (((q + 1) + 1 : Nat) : Int)) := ⟨fun _ => HNX.out.2 (.inr hxz), fun _ => rfl⟩
            clear HIN hxz hnz
            go_wp2_with fail
            refine wp_region_after (by kernel_rfl) (by kernel_rfl) ?_
            repeat (go_big_quiet_step (fail))
            refine wpQuiet_nil ?_
            rintro _ ⟨nq, rfl⟩
            have HBE : Hid (Below w3.heap.size w3 nq.now) := HBW.out.trans (nq.bel.mono HBW.out.size)
            clear c1 p1 hyx hx3 hxb c0 p0 hn0 hd1 hd2 h1 h2
            go_wp2_with fail
            go_roundw
            case rel => exact ⟨(q + 1) + 1, true, by omega, by go_num, rfl, by show _ ↔ _; simpa using HNB.out, HBE⟩
            case measure => simp [intOf]; omega
          · have hxb : (X == z) = false := by simp [hxz]
            have HNB : Hid (false = true ↔ z < lo + (((q + 1) + 1 : Nat) : Int)) := ⟨fun h => by (cases h), fun h => by rcases HNX.out.1 h with h | h; (exact absurd h hnz); (exact absurd h hxz)⟩
            clear HIN hxz hnz
            go_wp2_with fail
            refine wp_region_after (by kernel_rfl) (by kernel_rfl) ?_
            repeat (go_big_quiet_step (fail))
            refine wpQuiet_nil ?_
            rintro _ ⟨nq, rfl⟩
            have HBE : Hid (Below w3.heap.size w3 nq.now) := HBW.out.trans (nq.bel.mono HBW.out.size)
            clear c1 p1 hyx hx3 hxb c0 p0 hn0 hd1 hd2 h1 h2
            go_wp2_with fail
            go_roundw
            case rel => exact ⟨(q + 1) + 1, false, by omega, by go_num, rfl, by show _ ↔ _; simpa using HNB.out, HBE⟩
            case measure => simp [intOf]; omega

set_option maxRecDepth 100000 in
theorem lifted (os : Os) (started : os.Started) (H : Type) (enc : TypeId × Value → H) :
    ReturnsInHanded {} Try.checked os 4 .any (Rows.fnWhomSpec.pre6 enc Try.prog Try.f4 Rows.fnWhomRow.domain false) (Rows.fnWhomSpec.post enc Try.prog Try.f4 false true false false) := by
  refine returnsInHanded_of_change (C := Try.checked) own started (by kernel_rfl) Try.func4
    (ChangeSpec.witness6 (enc := enc) (C := Try.checked) false ⟨#[], #[.slice none 0 0], []⟩ 8 (by kernel_rfl) (by kernel_rfl) (by kernel_rfl) (by kernel_rfl)) ?_
  intro W base args ds gs before hval0 hW hcnd _
  have hval : ∀ (j : Nat) t v, Try.f4.params[j]? = some t → args[j]? = some v → Value.okWide Try.prog W .any base t v := hval0
  have hW' := hW
  obtain ⟨p, q, hA0, hV, rfl, hfz, hnd⟩ := hW
  have hA : DataW.TrodAll enc Try.prog W 0 (fun _ => true) true Try.f4.params.toList args.toList ds p := hA0
  rw [Try.params4] at hA hval
  obtain ⟨v0, vs0, d0, ds0, p0, q0, hargs, rfl, rfl, h0, rr0⟩ := trodAll_cons hA
  obtain ⟨rfl, rfl, rfl⟩ := trodAll_nil rr0
  obtain rfl : args = #[v0] := by cases args; simp_all
  obtain ⟨rfl, rfl⟩ := trodVars_none hV
  obtain ⟨a0, len0, cap0, rfl⟩ := okWide_slice Try.underlying22 (hval 0 22 v0 rfl rfl)
  have k0 := h0
  have lt0 : ∀ x ∈ p0, x.block < W.heap.size := by obtain ⟨m, hm⟩ := k0; exact DataW.trod_lt m _ _ _ hm
  obtain ⟨z0, w0⟩ : ∃ zs, IsRow .u8 W a0 len0 cap0 zs := by
    obtain ⟨fuel, hf⟩ := h0
    rcases open_ints Try.underlying22 Try.underlying5 (by kernel_rfl) hf with ⟨hcs, _⟩ | ⟨x, l, c, zs, hcs, _, hl, hm, hz, _, hcell, hwz⟩
    · simp [Value.cells] at hcs
      obtain ⟨rfl, rfl, rfl⟩ := hcs
      exact ⟨[], .inl ⟨rfl, rfl, rfl, rfl⟩⟩
    · simp [Value.cells] at hcs
      obtain ⟨rfl, rfl, rfl⟩ := hcs
      exact ⟨zs, .inr ⟨_, rfl, hl, hm, by simpa using hz, hcell, hwz⟩⟩

  clear hA0 hval0
  refine (walk W a0 len0 cap0 z0 w0).mono fun e W' ⟨he, bel⟩ => ?_
  subst he
  exact ⟨_, rfl, _, _, _, [], _, [], hW', trodAll_mk1 (shut_bool Try.underlying4 _), (trodAll_cons_mk (Below.trod laidOut (by kernel_rfl) (of_decide_eq_true (by kernel_rfl)) k0 bel lt0) trodAll_mk0), rfl, bel.frame _, fun h => by cases h⟩

theorem over : Rows.fnWhomRow.holds Try.pinned (OpenSpec.ofChange Rows.fnWhomSpec) :=
  OpenClaim.holds_of_wide 4 Try.f4 rfl rfl rfl rfl rfl rfl rfl ⟨rfl, rfl, rfl, rfl, rfl⟩ rfl rfl rfl rfl rfl (by kernel_rfl) Try.func4 (by kernel_rfl)
    (of_decide_eq_true (by kernel_rfl)) (by unfold Func.isWrapper; first | (rw [if_pos (by decide +kernel)]; kernel_rfl) | (rw [if_neg (by decide +kernel)]; exact ⟨rfl, rfl⟩))
    (fun os started H enc _ => lifted os started H enc)

end Go.Proofs.Ytkfpfijblflcfaa.fnWhom
namespace Go.Proofs.Ytkfpfijblflcfaa
/-- THE STATEMENT. -/
theorem fnWhom_said : Rows.FnWhomSaid := fnWhom.over
#print axioms fnWhom_said
end Go.Proofs.Ytkfpfijblflcfaa
