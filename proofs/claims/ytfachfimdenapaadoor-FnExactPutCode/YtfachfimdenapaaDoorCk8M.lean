/- A list of one number, told over and over: the library's slices.Repeat. -/
import Derived.Test.YtfachfimdenapaaDoorCk1M
import Derived.Test.YtfachfimdenapaaDoorShelf
import Derived.Laws.CopyOwn
import Derived.Laws.OwnMore
import Derived.Deep.RegionLaw
import Derived.Test.YtfachfimdenapaaDoorNumM
namespace Go.Proofs.YtfachfimdenapaaDoor
open Go.RowKit
set_option linter.unusedVariables false

theorem Tryd.infoIntR : (Tryd.prog.info? 3).map (fun i => (i.zero, i.size, i.bytes)) = some (some (.int .i64 0), 1, 8) := by kernel_rfl
theorem i64_size : (Tryd.prog.info? 3).map (·.size) = some 1 := by kernel_rfl

theorem wrap_in (x : Int) (h0 : 0 ≤ x) (h1 : x ≤ 1000000) : IntKind.i64.wrap x = x := by
  unfold IntKind.wrap
  simp [IntKind.signed, IntKind.bits]
  omega

/-- The first j are there, the others nought. -/
def fillD (y : Int) (j n : Nat) : List Value := List.replicate j (Value.int .i64 y) ++ List.replicate (n - j) (.int .i64 0)
theorem fillD_len {y : Int} {j n : Nat} (h : j ≤ n) : (fillD y j n).length = n := by unfold fillD; simp; omega
theorem fillD_splice (y : Int) (j m n : Nat) (h : j + m ≤ n) : splice (fillD y j n) j (List.replicate m (Value.int .i64 y)) = fillD y (j + m) n := by
  unfold splice fillD
  rw [List.take_append_of_le_length (by simp), List.take_of_length_le (by simp), List.length_replicate, List.drop_append, List.drop_of_length_le (by simp), List.nil_append, List.length_replicate, List.drop_replicate, ← List.append_assoc, List.replicate_append_replicate, show n - j - (j + m - j) = n - (j + m) by omega]
theorem fillD_at {y : Int} {j n i : Nat} (h : i < j) : (fillD y j n)[i]? = some (.int .i64 y) := by
  unfold fillD
  rw [List.getElem?_append_left (by simpa using h)]
  simp [h]

set_option maxRecDepth 100000 in
set_option maxHeartbeats 4000000 in
theorem repeat_any (q : Nat) (y : Int) (n : Nat) (w : World) (h1 : 1 ≤ n) (h2 : n ≤ 1500) (hq : w.heap[q]? = some (.cells #[.int .i64 y] 3 (0, 0))) :
    Calls Tryd.prog 78 #[.slice (some ⟨q, 0, none⟩) 1 1, .int .i64 n] w fun e w' => e = .returned (.slice (some ⟨w.heap.size, 0, none⟩) n n) ∧ HRow w' w.heap.size (List.replicate n y) ∧ Below w.heap.size w w' := by
  have hM := Tryd.bits_Mul 1 n (by omega) (by omega) w
  rw [show (1 * n / 18446744073709551616 : Nat) = 0 from by omega, show (1 * n % 18446744073709551616 : Nat) = n from by omega] at hM
  obtain ⟨i0, hi, hz0, hz1, hz2⟩ := info_parts Tryd.infoIntR
  have hn0 : ¬ (n : Int) < 0 := by omega
  go_enter Tryd.func78, Tryd.ntmps78
  go_wp2_with fail
  refine hM.mono ?_
  clear hM
  rintro e w0 ⟨rfl, hw0⟩
  obtain rfl : w = w0 := hw0.symm
  go_wp2_with (at_make; refine wpList_make_full _ rfl _ _ 76 rfl w.heap.size 3 i0 (.int .i64 0) 1 Tryd.underlying76 hi hz0 hz1 _ _ _ _ n rfl rfl rfl rfl ?c1 ?c2 ?c3 ?_)
  case c1 => rw [hz2]; omega
  case c2 => unfold maxLen; omega
  case c3 => exact Nat.le_refl _
  intro w1 hown hgrow
  rw [toList_madeCells_one] at hown
  have hbel : Below w.heap.size w w1 := (Below.refl _ _).grown hgrow (Nat.le_refl _) (fun _ h => by cases h)
  have hrow : w1.heap[w.heap.size]? = some (.cells (fillD y 0 n).toArray 3 (0, 0)) := by
    rcases hown.2 with ⟨h', _⟩ | ⟨g', cap', cur, h', _, hg, _, _, hs, ht⟩
    · simp at h'
    · simp only [Value.slice.injEq, Option.some.injEq, Addr.mk.injEq, and_true, true_and] at h'
      obtain ⟨rfl, rfl⟩ := h'
      rw [List.take_of_length_le (by simp; omega)] at ht
      rw [hg, show cur = (List.replicate n (Value.int .i64 0)).toArray from by rw [← ht]]
      unfold fillD
      simp
  have hqw : w1.cell? ⟨q, 0, none⟩ = some (.int .i64 y) := by rw [cell_of_row w1 _ 0 _ _ _ ((hbel.block _ (lt_row hq)).trans hq)]; rfl
  clear hown hgrow hq
  have HS1 : Hid (splice (fillD y 0 n) 0 (List.replicate 1 (Value.int .i64 y)) = fillD y 1 n) := fillD_splice y 0 1 n (by omega)
  obtain ⟨cs1, hcs1⟩ : ∃ cs, List.replicate 1 (Value.int .i64 y) = cs := ⟨_, rfl⟩
  have HC1 : Hid (List.replicate 1 (Value.int .i64 y) = cs1) := hcs1
  rw [hcs1] at HS1
  clear hcs1
  go_wp2_with (refine wpList_copy_splice rfl (.tmp 31) (.tmp 32) 76 76 rfl 3 Tryd.underlying76 i64_size _ _ n n 1 1 rfl rfl w.heap.size 0 (fillD y 0 n) 3 hrow cs1 ?d1 ?d2 ?d3 ?d4 w.heap.size w hbel (Nat.le_refl _) ?_)
  case d1 => rw [← HC1.out]; exact (Nat.min_eq_left h1).symm
  case d2 =>
    intro _ j u hj
    rw [← HC1.out] at hj
    have : j = 0 := by have := (List.getElem?_eq_some_iff.1 hj).1; simpa using this
    subst this
    simp at hj
    rw [← hj]
    exact hqw
  case d3 => rw [fillD_len (by omega), ← HC1.out]; simp; omega
  case d4 => intro v hv; rw [← HC1.out] at hv; rw [(List.mem_replicate.1 hv).2]; rfl
  intro w2 hrow2 hbel2
  have HR2 : Hid (w2.heap[w.heap.size]? = some (.cells (fillD y 1 n).toArray 3 (0, 0))) := by
    have := hrow2.out
    rw [HS1.out] at this
    exact this
  clear hrow2 HS1 hrow hqw
  go_wp2_with fail
  go_loopw [8] (fun i wr => ∃ j : Nat, 1 ≤ j ∧ j ≤ n ∧ i = .int .i64 j ∧ Hid (wr.heap[w.heap.size]? = some (.cells (fillD y j n).toArray 3 (0, 0))) ∧ Hid (Below w.heap.size w wr)) (fun i _ => n - (intOf i).toNat)
  case atStart => exact ⟨1, by omega, by omega, (by rw [← HC1.out]; rfl), HR2, hbel2⟩
  case round =>
    obtain ⟨j, hj1, hj2, rfl, HRj, HBj⟩ := hrel
    by_cases hjl : j < n
    · have hjl' : (j : Int) < (n : Int) := by omega
      obtain ⟨m, hm⟩ : ∃ m, Nat.min j (n - j) = m := ⟨_, rfl⟩
      have hmb : 1 ≤ m ∧ j + m ≤ n := by rw [← hm]; constructor <;> (simp only [Nat.min_def]; split <;> omega)
      have HS : Hid (splice (fillD y j n) j (List.replicate m (Value.int .i64 y)) = fillD y (j + m) n) := fillD_splice y j m n hmb.2
      have HD1 : Hid ((List.replicate m (Value.int .i64 y)).length = Nat.min j (n - j)) := by show _ = _; rw [List.length_replicate, hm]
      have HD2 : Hid (∀ (i : Nat) (v : Value), (List.replicate m (Value.int .i64 y))[i]? = some v → ∀ W : World, W.heap = wr.heap → W.cell? ((⟨w.heap.size, 0, none⟩ : Addr).add i) = some v) := fun i v hv W hW => by
        have him : i < m := by have := (List.getElem?_eq_some_iff.1 hv).1; simpa using this
        have hij : i < j := by have : m ≤ j := by rw [← hm]; exact Nat.min_le_left _ _
                               omega
        rw [Addr.add_lit, Nat.zero_add, cell_of_row W _ i _ _ _ (by rw [hW]; exact HRj.out)]
        simp [him] at hv
        rw [← hv]
        simpa using fillD_at (y := y) (n := n) hij
      have HD3 : Hid (j + (List.replicate m (Value.int .i64 y)).length ≤ (fillD y j n).length) := by show _ ≤ _; rw [fillD_len hj2, List.length_replicate]; exact hmb.2
      have HD4 : Hid (∀ v ∈ List.replicate m (Value.int .i64 y), v.oneCell' = true) := fun v hv => by rw [(List.mem_replicate.1 hv).2]; rfl
      obtain ⟨cs, hcs⟩ : ∃ cs, List.replicate m (Value.int .i64 y) = cs := ⟨_, rfl⟩
      have HCL : Hid (cs.length = m) := by show _ = _; rw [← hcs]; simp
      rw [hcs] at HS HD1 HD2 HD3 HD4
      have HWR : Hid (Value.int .i64 (IntKind.i64.wrap ((j : Int) + (cs.length : Int))) = .int .i64 ((j + m : Nat) : Int)) := by
        show _ = _
        rw [HCL.out, wrap_in _ (by omega) (by omega)]
        go_num
      clear hcs hm
      have hnj : ¬ n = j := by omega
      have hcl : (cs.length : Int) ≤ 1500 := by have := HCL.out; omega
      have hj0 : (0 : Int) ≤ (j : Int) := by omega
      have hjn : (j : Int) ≤ (n : Int) := by omega
      go_wp2_with fail
      go_region_law (refine step_copy_splice rfl (.tmp 41) (.tmp 44) 76 76 rfl 3 Tryd.underlying76 i64_size _ _ (n - j) (n - j) j n (by simp [Act.eval, Act.put]) (by simp [Act.eval, Act.put]) w.heap.size j (fillD y j n) 3 HRj.out cs HD1.out (fun _ => ⟨rfl, _, rfl, fun i v hv => HD2.out i v hv _ rfl⟩) HD3.out HD4.out w.heap.size w (by first | exact HBj.out | exact HBj.out.drew) (Nat.le_refl _) ?_; intro w3 hr3 hb3)
      all_goals
        have HR3 : Hid (w3.heap[w.heap.size]? = some (.cells (fillD y (j + m) n).toArray 3 (0, 0))) := by
          have := hr3.out
          rw [HS.out] at this
          exact this
        have HB3 : Hid (Below w.heap.size w w3) := hb3
        clear hr3 hb3
        go_wp2_with fail
        go_roundw
        case rel => exact ⟨_, _, _, _, _, _, _, _, _, _, _, _, _, _, ⟨j + m, by omega, hmb.2, HWR.out, HR3, HB3⟩, rfl⟩
        case measure =>
          show n - (intOf (Value.int .i64 (IntKind.i64.wrap ((j : Int) + (cs.length : Int))))).toNat < n - (intOf (Value.int .i64 (j : Int))).toNat
          rw [HWR.out]
          simp only [intOf, Int.toNat_natCast]
          omega
    · obtain rfl : j = n := by omega
      have hjl' : decide ((j : Int) < (j : Int)) = false := by simp
      have HF : Hid (HRow wr w.heap.size (List.replicate j y)) := by
        have := HRj.out
        unfold fillD at this
        show _ = _
        rw [this]
        simp
      clear HRj
      go_wp2_with fail
      go_ret
      exact ⟨rfl, HF.out, HBj.out⟩

end Go.Proofs.YtfachfimdenapaaDoor
