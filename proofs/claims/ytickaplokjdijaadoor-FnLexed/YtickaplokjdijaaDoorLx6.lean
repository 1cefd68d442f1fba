/- The program's reading of one token. -/
import Derived.Test.YtickaplokjdijaaDoorLx5
namespace Go.Proofs.YtickaplokjdijaaDoor
open Go.RowKit
set_option linter.unusedVariables false

/-- What the program's reading of one token hands on. -/
def OneI (s : ByteArray) (w : World) (e : Ending) (w' : World) : Prop :=
  ∃ (k n : Int) (S : ByteArray) (q : Nat), e = .returned (.tuple #[.agg #[.int .i64 k, .int .i64 n, .string S], .int .i64 q]) ∧ OneR s 0 k n S q ∧ q ≤ s.size ∧ S.size ≤ s.size ∧ Below w.heap.size w w'

theorem lt_of_heap {w : World} {g : Nat} {o : Obj} (h : w.heap[g]? = some o) : g < w.heap.size := (Array.getElem?_eq_some_iff.1 h).1

set_option maxHeartbeats 2000000 in
set_option maxRecDepth 100000 in
theorem firstToken_any (s : ByteArray) (w : World) (hi : 0 < s.size) (hs : s.size ≤ 1099511627776) :
    Calls Tryd.prog 32 #[.string s] w (OneI s w) := by
  obtain ⟨x, hx⟩ : ∃ x, (s[0].toNat : Int) = x := ⟨_, rfl⟩
  have HX : Hid ((s[0].toNat : Int) = x) := hx
  obtain ⟨W, hW⟩ : ∃ W, W = w.alloc (.cells #[.int .i64 0, .int .i64 0, .string ⟨#[]⟩] 31) := ⟨_, rfl⟩
  have hA : Below w.heap.size w W := by rw [hW]; exact (Below.refl _ _).alloc (Nat.le_refl _) _
  have hWz : W.heap.size = w.heap.size + 1 := by rw [hW]; simp
  have hB1 : W.heap[w.heap.size]? = some (.cells #[.int .i64 0, .int .i64 0, .string ⟨#[]⟩] 31 (0, 0)) := by rw [hW]; exact heap_alloc_new w _
  have hMk := markSize_any s W hi
  obtain ⟨m, hm⟩ : ∃ m : Nat, (m : Int) = mkn s.data.toList := ⟨(mkn s.data.toList).toNat, by have := (mkn_range s.data.toList).1; omega⟩
  have hms : m ≤ s.size := by have := mkn_le s.data.toList (fun h => by rw [Lib.size_eq, h] at hi; simp at hi); rw [← Lib.size_eq] at this; omega
  have HMM : Hid ((m : Int) = mkn s.data.toList) := hm
  rw [← hm] at hMk
  clear hm
  have hDg := isDigit_any x W
  have hS := isSmall_any x W
  have hG := beginsName_any x W
  have hR1 := runDigits s W (by omega)
  have hR2 := runAtom s W (by omega)
  have hR3 := runName s W (by omega)
  change Calls _ _ _ _ fun e w' => e = .returned (.bool (dgB x)) ∧ W = w' at hDg
  change Calls _ _ _ _ fun e w' => e = .returned (.bool (smB x)) ∧ W = w' at hS
  rw [hW] at hDg hS hG hR1 hR2 hR3 hMk
  have HW : Hid (W = _) := hW
  clear hW
  have HTAIL : Hid (∀ k : Nat, k ≤ s.size → Calls Tryd.prog 65 #[.string (s.extract 0 k)] W fun e w' => e = .returned (.string (s.extract 0 k)) ∧ Below W.heap.size W w') := fun k hk => clone_any _ W (by have := ex_le s 0 k; omega)
  cases hd : dgB x
  · rw [hd] at hDg
    cases hsm : smB x
    · rw [hsm] at hS
      cases hg : lgB x
      · rw [hg] at hG
        have HOR : Hid (OneR s 0 4 0 (s.extract 0 m) m) := by
          have := oneR_mk (m := m) hi (by rw [HX.out]; exact hd) (by rw [HX.out]; exact hsm) (by rw [HX.out]; exact hg) (by rw [List.drop_zero]; exact HMM.out)
          rw [Nat.zero_add] at this
          exact this
        have hC := HTAIL.out m hms
        rw [HW.out] at hC
        clear hd hsm hg HX hR1 hR2 hR3 HMM HTAIL
        go_enter Tryd.func32, Tryd.ntmps32
        go_wp2_with (first | (go_at_call 57; refine hMk.mono ?_; rintro e w' ⟨rfl, rfl⟩) | (go_at_call 58; refine hDg.mono ?_; rintro e w' ⟨rfl, rfl⟩) | (go_at_call 61; refine hS.mono ?_; rintro e w' ⟨rfl, rfl⟩) | (go_at_call 63; refine hG.mono ?_; rintro e w' ⟨rfl, rfl⟩))
        refine hC.mono ?_
        clear hC hMk hDg hS hG
        rintro e w2 ⟨rfl, hb⟩
        rw [← HW.out] at hb
        have hres := (hb.block _ (by omega)).trans hB1
        have b0 : w2.cell? ⟨w.heap.size, 0, none⟩ = some (.int .i64 0) := by rw [cell_of_row w2 _ 0 _ _ _ hres]; rfl
        have b1 : w2.cell? ⟨w.heap.size, 1, none⟩ = some (.int .i64 0) := by rw [cell_of_row w2 _ 1 _ _ _ hres]; rfl
        have b2 : w2.cell? ⟨w.heap.size, 2, none⟩ = some (.string ⟨#[]⟩) := by rw [cell_of_row w2 _ 2 _ _ _ hres]; rfl
        have y0 : w2.frozen? ⟨w.heap.size, 0, none⟩ = false := frozen_of_row w2 _ 0 _ _ hres
        have y1 : w2.frozen? ⟨w.heap.size, 1, none⟩ = false := frozen_of_row w2 _ 1 _ _ hres
        have y2 : w2.frozen? ⟨w.heap.size, 2, none⟩ = false := frozen_of_row w2 _ 2 _ _ hres
        have hwz2 : w.heap.size < w2.heap.size := lt_of_heap hres
        have hb9 : Below w.heap.size w w2 := hA.trans (hb.mono hA.size)
        clear hres hb HW hB1
        go_wp2_with fail
        refine bodyPost_ret (v := .tuple #[.agg #[.int .i64 4, .int .i64 0, .string (s.extract 0 m)], .int .i64 m]) (by first | (simp [results, Tryd.results32, go_sem, b0, b1, b2]; done) | (simp [results, Tryd.results32, go_sem, b0, b1, b2]; rfl)) rfl ⟨4, 0, (s.extract 0 m), m, rfl, HOR.out, hms, ex_le .., ?_⟩
        exact ((hb9.setCell (Nat.le_refl _) _).setCell (Nat.le_refl _) _).setCell (Nat.le_refl _) _
      · rw [hg] at hG
        have HK : Hid (∀ k, RunTo nmB s 0 k → k ≤ s.size ∧ OneR s 0 3 0 (s.extract 0 k) k) := fun k hk => ⟨hk.2.1, oneR_lg hi (by rw [HX.out]; exact hg) hk⟩
        clear hd hsm hg HX hR1 hR2 HMM
        go_enter Tryd.func32, Tryd.ntmps32
        go_wp2_with (first | (go_at_call 57; refine hMk.mono ?_; rintro e w' ⟨rfl, rfl⟩) | (go_at_call 58; refine hDg.mono ?_; rintro e w' ⟨rfl, rfl⟩) | (go_at_call 61; refine hS.mono ?_; rintro e w' ⟨rfl, rfl⟩) | (go_at_call 63; refine hG.mono ?_; rintro e w' ⟨rfl, rfl⟩))
        refine hR3.mono ?_
        clear hR3 hDg hS hG hMk
        rintro e w' ⟨k, rfl, hk, rfl⟩
        obtain ⟨hk2, hk3⟩ := HK.out k hk.out
        have HOR : Hid (OneR s 0 3 0 (s.extract 0 k) k) := hk3
        have hC := HTAIL.out k hk2
        rw [HW.out] at hC
        clear HK hk hk3 HTAIL
        go_wp2_with fail
        refine hC.mono ?_
        clear hC
        rintro e w2 ⟨rfl, hb⟩
        rw [← HW.out] at hb
        have hres := (hb.block _ (by omega)).trans hB1
        have b0 : w2.cell? ⟨w.heap.size, 0, none⟩ = some (.int .i64 0) := by rw [cell_of_row w2 _ 0 _ _ _ hres]; rfl
        have b1 : w2.cell? ⟨w.heap.size, 1, none⟩ = some (.int .i64 0) := by rw [cell_of_row w2 _ 1 _ _ _ hres]; rfl
        have b2 : w2.cell? ⟨w.heap.size, 2, none⟩ = some (.string ⟨#[]⟩) := by rw [cell_of_row w2 _ 2 _ _ _ hres]; rfl
        have y0 : w2.frozen? ⟨w.heap.size, 0, none⟩ = false := frozen_of_row w2 _ 0 _ _ hres
        have y1 : w2.frozen? ⟨w.heap.size, 1, none⟩ = false := frozen_of_row w2 _ 1 _ _ hres
        have y2 : w2.frozen? ⟨w.heap.size, 2, none⟩ = false := frozen_of_row w2 _ 2 _ _ hres
        have hwz2 : w.heap.size < w2.heap.size := lt_of_heap hres
        have hb9 : Below w.heap.size w w2 := hA.trans (hb.mono hA.size)
        clear hres hb HW hB1
        go_wp2_with fail
        refine bodyPost_ret (v := .tuple #[.agg #[.int .i64 3, .int .i64 0, .string (s.extract 0 k)], .int .i64 k]) (by first | (simp [results, Tryd.results32, go_sem, b0, b1, b2]; done) | (simp [results, Tryd.results32, go_sem, b0, b1, b2]; rfl)) rfl ⟨3, 0, (s.extract 0 k), k, rfl, HOR.out, hk2, ex_le .., ?_⟩
        exact ((hb9.setCell (Nat.le_refl _) _).setCell (Nat.le_refl _) _).setCell (Nat.le_refl _) _
    · rw [hsm] at hS
      have HK : Hid (∀ k, RunTo atB s 0 k → k ≤ s.size ∧ OneR s 0 2 0 (s.extract 0 k) k) := fun k hk => ⟨hk.2.1, oneR_sm hi (by rw [HX.out]; exact hsm) hk⟩
      clear hd hsm HX hR1 hR3 hG HMM
      go_enter Tryd.func32, Tryd.ntmps32
      go_wp2_with (first | (go_at_call 57; refine hMk.mono ?_; rintro e w' ⟨rfl, rfl⟩) | (go_at_call 58; refine hDg.mono ?_; rintro e w' ⟨rfl, rfl⟩) | (go_at_call 61; refine hS.mono ?_; rintro e w' ⟨rfl, rfl⟩))
      refine hR2.mono ?_
      clear hR2 hDg hS hMk
      rintro e w' ⟨k, rfl, hk, rfl⟩
      obtain ⟨hk2, hk3⟩ := HK.out k hk.out
      have HOR : Hid (OneR s 0 2 0 (s.extract 0 k) k) := hk3
      have hC := HTAIL.out k hk2
      rw [HW.out] at hC
      clear HK hk hk3 HTAIL
      go_wp2_with fail
      refine hC.mono ?_
      clear hC
      rintro e w2 ⟨rfl, hb⟩
      rw [← HW.out] at hb
      have hres := (hb.block _ (by omega)).trans hB1
      have b0 : w2.cell? ⟨w.heap.size, 0, none⟩ = some (.int .i64 0) := by rw [cell_of_row w2 _ 0 _ _ _ hres]; rfl
      have b1 : w2.cell? ⟨w.heap.size, 1, none⟩ = some (.int .i64 0) := by rw [cell_of_row w2 _ 1 _ _ _ hres]; rfl
      have b2 : w2.cell? ⟨w.heap.size, 2, none⟩ = some (.string ⟨#[]⟩) := by rw [cell_of_row w2 _ 2 _ _ _ hres]; rfl
      have y0 : w2.frozen? ⟨w.heap.size, 0, none⟩ = false := frozen_of_row w2 _ 0 _ _ hres
      have y1 : w2.frozen? ⟨w.heap.size, 1, none⟩ = false := frozen_of_row w2 _ 1 _ _ hres
      have y2 : w2.frozen? ⟨w.heap.size, 2, none⟩ = false := frozen_of_row w2 _ 2 _ _ hres
      have hwz2 : w.heap.size < w2.heap.size := lt_of_heap hres
      have hb9 : Below w.heap.size w w2 := hA.trans (hb.mono hA.size)
      clear hres hb HW hB1
      go_wp2_with fail
      refine bodyPost_ret (v := .tuple #[.agg #[.int .i64 2, .int .i64 0, .string (s.extract 0 k)], .int .i64 k]) (by first | (simp [results, Tryd.results32, go_sem, b0, b1, b2]; done) | (simp [results, Tryd.results32, go_sem, b0, b1, b2]; rfl)) rfl ⟨2, 0, (s.extract 0 k), k, rfl, HOR.out, hk2, ex_le .., ?_⟩
      exact ((hb9.setCell (Nat.le_refl _) _).setCell (Nat.le_refl _) _).setCell (Nat.le_refl _) _
  · rw [hd] at hDg
    have HK : Hid (∀ k, RunTo dgB s 0 k → k ≤ s.size ∧ DigP (s.extract 0 k) ∧ ∀ kk n, NumTok (s.extract 0 k) kk n → OneR s 0 kk n ByteArray.empty k) := fun k hk => ⟨hk.2.1, run_dig hi (by rw [HX.out]; exact hd) hk, fun kk n hn => oneR_dig2 hi (by rw [HX.out]; exact hd) hk hn⟩
    clear hd HX hR2 hR3 hG hS HMM HTAIL
    go_enter Tryd.func32, Tryd.ntmps32
    go_wp2_with (first | (go_at_call 57; refine hMk.mono ?_; rintro e w' ⟨rfl, rfl⟩) | (go_at_call 58; refine hDg.mono ?_; rintro e w' ⟨rfl, rfl⟩))
    refine hR1.mono ?_
    clear hR1 hDg hMk
    rintro e w' ⟨k, rfl, hk, rfl⟩
    obtain ⟨hk2, hk3, hk4⟩ := HK.out k hk.out
    have HO : Hid (∀ kk n, NumTok (s.extract 0 k) kk n → OneR s 0 kk n ByteArray.empty k) := hk4
    have hN := numToken_any (s.extract 0 k) W hk3 (by have := ex_le s 0 k; omega)
    rw [HW.out] at hN
    clear HK hk hk3 hk4
    go_wp2_with fail
    refine hN.mono ?_
    clear hN
    rintro e w2 ⟨kk, n, rfl, hn, hb⟩
    rw [← HW.out] at hb
    have HOR : Hid (OneR s 0 kk n ByteArray.empty k) := HO.out kk n hn.out
    clear HO hn
    have hres := (hb.block _ (by omega)).trans hB1
    have b0 : w2.cell? ⟨w.heap.size, 0, none⟩ = some (.int .i64 0) := by rw [cell_of_row w2 _ 0 _ _ _ hres]; rfl
    have b1 : w2.cell? ⟨w.heap.size, 1, none⟩ = some (.int .i64 0) := by rw [cell_of_row w2 _ 1 _ _ _ hres]; rfl
    have b2 : w2.cell? ⟨w.heap.size, 2, none⟩ = some (.string ⟨#[]⟩) := by rw [cell_of_row w2 _ 2 _ _ _ hres]; rfl
    have y0 : w2.frozen? ⟨w.heap.size, 0, none⟩ = false := frozen_of_row w2 _ 0 _ _ hres
    have y1 : w2.frozen? ⟨w.heap.size, 1, none⟩ = false := frozen_of_row w2 _ 1 _ _ hres
    have y2 : w2.frozen? ⟨w.heap.size, 2, none⟩ = false := frozen_of_row w2 _ 2 _ _ hres
    have hwz2 : w.heap.size < w2.heap.size := lt_of_heap hres
    have hb9 : Below w.heap.size w w2 := hA.trans (hb.mono hA.size)
    clear hres hb HW hB1
    go_wp2_with fail
    refine bodyPost_ret (v := .tuple #[.agg #[.int .i64 kk, .int .i64 n, .string ByteArray.empty], .int .i64 k]) (by first | (simp [results, Tryd.results32, go_sem, b0, b1, b2]; done) | (simp [results, Tryd.results32, go_sem, b0, b1, b2]; rfl)) rfl ⟨kk, n, ByteArray.empty, k, rfl, HOR.out, hk2, Nat.zero_le _, ?_⟩
    exact ((hb9.setCell (Nat.le_refl _) _).setCell (Nat.le_refl _) _).setCell (Nat.le_refl _) _

end Go.Proofs.YtickaplokjdijaaDoor
