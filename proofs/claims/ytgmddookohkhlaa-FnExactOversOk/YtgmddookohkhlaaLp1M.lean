/- Texts of which none comes twice, by sorting. -/
import Derived.Test.YtgmddookohkhlaaGetTM
import Derived.Test.YtgmddookohkhlaaShelf
namespace Go.Proofs.Ytgmddookohkhlaa
open Go.RowKit Go.Lib Go.Sort
set_option linter.unusedVariables false

theorem kept_all {α : Type} [Inhabited α] [DecidableEq α] (zs : List α) : (compact zs).length = zs.length ↔ ∀ j, j < zs.length → keeps zs.toArray j = true := by
  unfold compact compactUpTo
  rw [List.length_map]
  have h := List.length_filter_eq_length_iff (p := keeps zs.toArray) (l := List.range zs.length)
  rw [List.length_range] at h
  rw [h]
  simp
theorem sorted_nodup (zs : List (List UInt8)) (hs : zs.Pairwise fun x y => x ≤ y) : (compact zs).length = zs.length ↔ zs.Nodup := by
  rw [kept_all]
  have hk : ∀ j (h : j < zs.length), keeps zs.toArray j = true ↔ (j = 0 ∨ zs[j] ≠ zs[j - 1]'(by omega)) := by
    intro j h
    unfold keeps
    have e1 : zs.toArray[j]! = zs[j] := by simp [h]
    have e2 : zs.toArray[j - 1]! = zs[j - 1]'(by omega) := by simp [show j - 1 < zs.length by omega]
    rw [decide_eq_true_iff, e1, e2]
  constructor
  · intro h
    unfold List.Nodup
    rw [List.pairwise_iff_getElem] at hs ⊢
    intro i j hi hj hij e
    rcases (hk j hj).1 (h j hj) with h0 | h0
    · omega
    · apply h0
      have h1 : zs[j - 1]'(by omega) ≤ zs[j] := hs (j - 1) j (by omega) hj (by omega)
      have h2 : zs[j] ≤ zs[j - 1]'(by omega) := by
        by_cases hlt : i = j - 1
        · subst hlt; rw [← e]; exact List.le_refl _
        · rw [← e]; exact hs i (j - 1) hi (by omega) (by omega)
      exact List.le_antisymm h2 h1
  · intro h j hj
    rw [hk j hj]
    by_cases h0 : j = 0
    · exact .inl h0
    · right
      intro e
      unfold List.Nodup at h
      rw [List.pairwise_iff_getElem] at h
      exact h (j - 1) j (by omega) hj (by omega) e.symm
theorem compact_nodup (ss : List (List UInt8)) : (compact (ss.mergeSort fun x y => decide (x ≤ y))).length = ss.length ↔ ss.Nodup := by
  have hp := List.mergeSort_perm ss (fun x y => decide (x ≤ y))
  rw [← hp.nodup_iff, ← hp.length_eq]
  refine sorted_nodup _ ?_
  have := List.pairwise_mergeSort (le := fun (x y : List UInt8) => decide (x ≤ y)) (fun a b c h1 h2 => by simp only [decide_eq_true_eq] at *; exact List.le_trans h1 h2) (fun a b => by simp only [Bool.or_eq_true, decide_eq_true_eq]; exact List.le_total a b) ss
  simpa using this

theorem putRow_below {α : Type} [Inhabited α] (enc : α → Value) (w : World) (n blk off B : Nat) (d : Array α) (os : Array Obj) (hB : B ≤ blk) (hz : B ≤ w.heap.size) : Below B w (grow (putRow enc (Sort.ahead w n) blk off d) os) := by
  refine ⟨rfl, rfl, rfl, by simp [grow, putRow, mapBlock, Sort.ahead], fun g hg => ?_⟩
  have h1 : g < (putRow enc (Sort.ahead w n) blk off d).heap.size := by simp [putRow, mapBlock, Sort.ahead]; omega
  rw [heap_grow_old _ os h1]
  show ((w.heap.modify blk _)[g]?) = _
  rw [Array.getElem?_modify, if_neg (by omega)]

theorem nodup_lists (l : List ByteArray) : (l.map ByteArray.toList).Nodup ↔ l.Nodup := by
  unfold List.Nodup
  rw [List.pairwise_map]
  constructor
  · intro h; exact h.imp fun hne e => hne (by rw [e])
  · intro h; exact h.imp fun hne e => hne (by
      rw [ByteArray.toList_eq, ByteArray.toList_eq] at e
      exact ByteArray.ext (Array.toList_inj.mp e))

theorem StrRow.holds {w : World} {B g n c : Nat} {l : List ByteArray} (h : StrRow w B (.slice (some ⟨g, 0, none⟩) n c) l) : n = l.length ∧ n ≤ c ∧ B ≤ g ∧ g < w.heap.size ∧ Holds encStr w g 0 (l.map ByteArray.toList).toArray := by
  rcases h.2 with ⟨e, _⟩ | ⟨g', cap, cur, e, hB, hg, h1, _, hs, ht⟩
  · cases e
  · simp only [Value.slice.injEq, Option.some.injEq, Addr.mk.injEq, and_true] at e
    obtain ⟨rfl, rfl, rfl⟩ := e
    refine ⟨rfl, h1, hB, lt_row hg, fun j hj => ⟨?_, frozen_of_row w _ _ _ _ hg⟩⟩
    have hj' : j < l.length := by simpa using hj
    rw [Nat.zero_add, cell_of_row w _ _ _ _ _ hg]
    have e1 : ((l.map ByteArray.toList).toArray)[j]! = l[j].toList := by simp [hj']
    have hu : (l.map Value.string)[j]? = some (.string l[j]) := by simp [hj']
    rw [Nat.mul_one] at ht
    rw [← ht, List.getElem?_take, if_pos hj'] at hu
    have hu2 : cur[j]? = some (.string l[j]) := by simpa using hu
    rw [hu2, e1]
    show _ = some (Value.string ⟨l[j].toList.toArray⟩)
    rw [ByteArray.toList_eq]

set_option maxHeartbeats 1000000 in
theorem noneTwice_any (v : Value) (l : List ByteArray) (B : Nat) (w : World) (h : StrRow w B v l) (hm : l.length ≤ 1048577) (hB : B ≤ w.heap.size) :
    Calls Try.prog 42 #[v] w fun r w' => ∃ b : Bool, r = .returned (.bool b) ∧ Hid (b = true ↔ l.Nodup) ∧ Below B w w' := by
  by_cases hv : v = .slice none 0 0
  · subst hv
    have hl : l = [] := by
      rcases h.2 with ⟨_, e⟩ | ⟨g', cap, cur, e, _⟩
      · exact List.length_eq_zero_iff.1 e
      · cases e
    subst hl
    have h1 := Try.slices_Sort_string_none none 0 w
    have h2 := Try.slices_Compact_string_empty none 0 w
    clear h
    go_enter Try.func42, Try.ntmps42
    go_wp2_with fail
    refine h1.mono ?_
    rintro e w' ⟨rfl, rfl⟩
    go_wp2_with fail
    refine h2.mono ?_
    rintro e w' ⟨rfl, rfl⟩
    go_wp2_with fail
    go_ret
    exact ⟨true, rfl, by show (true = true ↔ _); simp, Below.refl _ _⟩
  · obtain ⟨g, n, c, rfl⟩ : ∃ g n c, v = .slice (some ⟨g, 0, none⟩) n c := by
      rcases h.2 with ⟨e, _⟩ | ⟨g', cap, cur, e, _⟩
      · exact absurd e hv
      · exact ⟨_, _, _, e⟩
    obtain ⟨rfl, hc, hBg, hgz, hH⟩ := h.holds
    obtain ⟨ss, hss⟩ : ∃ ss, l.map ByteArray.toList = ss := ⟨_, rfl⟩
    rw [hss] at hH
    have hlen : l.length = ss.length := by rw [← hss]; simp
    rw [hlen] at hc hm ⊢
    have HN : Hid (ss.Nodup ↔ l.Nodup) := by rw [← hss]; exact nodup_lists l
    have h1 := Try.slices_Sort_string g 0 c ss w hH hgz (by omega)
    obtain ⟨zs, hzs⟩ : ∃ zs, (ss.mergeSort fun x y => decide (x ≤ y)) = zs := ⟨_, rfl⟩
    have HZ : Hid ((compact zs).length = ss.length ↔ ss.Nodup) := by rw [← hzs]; exact compact_nodup ss
    have hzl : zs.length = ss.length := by rw [← hzs]; exact List.length_mergeSort ss
    rw [hzs] at h1
    have HH : Hid (Holds encStr w g 0 ss.toArray) := hH
    clear hss hzs hH h hv
    obtain ⟨m, hsm⟩ : ∃ m, ss.length = m := ⟨_, rfl⟩
    rw [hsm] at h1 hc hm hzl HZ ⊢
    have HSM : Hid (ss.length = m) := hsm
    clear hsm hlen
    go_enter Try.func42, Try.ntmps42
    go_wp2_with fail
    refine h1.mono ?_
    clear h1
    rintro e w1 ⟨rfl, n1, os, hw1⟩
    have hb1 : Below B w w1 := by rw [hw1]; exact putRow_below _ _ _ _ _ _ _ _ hBg hB
    have hH1 : Holds encStr w1 g 0 zs.toArray := by
      rw [hw1]
      refine holds_grow _ _ _ _ _ _ (by simp [putRow, mapBlock, Sort.ahead]; exact hgz) ?_
      exact holds_putRow encStr (Sort.ahead w n1) g 0 ss.toArray zs.toArray HH.out (by simp [hzl, HSM.out])
    have h2 := Try.slices_Compact_string g 0 c zs w1 hH1 (by omega) (by omega)
    rw [hzl] at h2
    obtain ⟨q, hq⟩ : ∃ q, (compact zs).length = q := ⟨_, rfl⟩
    rw [hq] at h2 HZ
    clear hw1 hH1 HH hq
    go_wp2_with fail
    refine h2.mono ?_
    clear h2
    rintro e w2 ⟨rfl, n2, hw2⟩
    have hb2 : Below B w w2 := by
      refine hb1.trans ?_
      have := putRow_below encStr w1 n2 g 0 B (compact zs ++ List.replicate (m - q) []).toArray #[] hBg (Nat.le_trans hB hb1.size)
      rw [grow_empty] at this
      rw [hw2]
      exact this
    have HF : Hid (((q : Int) == (m : Int)) = true ↔ l.Nodup) := by
      show _ ↔ _
      rw [← HN.out, ← HZ.out]
      simp
      omega
    clear hw2 HZ HN hb1 HSM hzl
    go_wp2_with fail
    go_ret
    exact ⟨_, rfl, HF, hb2⟩

end Go.Proofs.Ytgmddookohkhlaa
