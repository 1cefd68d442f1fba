/- The library's slices.Equal at lists of Ins. -/
import Derived.Test.YtahmbnokjfkfiaaSc1
namespace Go.Proofs.Ytahmbnokjfkfiaa
open Go.RowKit
set_option linter.unusedVariables false

set_option maxRecDepth 100000 in
set_option maxHeartbeats 4000000 in
theorem equalIns_any (v1 v2 : Value) (xs ys : List DIns) (w : World) (h1 : RowOf 4 InsR w v1 xs) (g1 : RowOf 4 InsR w v2 ys) (q1 : xs.length ≤ 1048576) (q2 : ys.length ≤ 1048576) :
    Calls Try.prog 37 #[v1, v2] w fun e w' => e = .returned (.bool (eqw xs ys)) ∧ Below w.heap.size w w' := by
  obtain ⟨a3, c3, rfl⟩ := h1.slice
  obtain ⟨b3, d3, rfl⟩ := g1.slice
  by_cases hl : xs.length = ys.length
  case neg =>
    have hne : ((xs.length : Int) != (ys.length : Int)) = true := by simp; omega
    have hB : eqw xs ys = false := eqw_no (fun e => hl (by rw [e]))
    rw [hB]
    obtain ⟨l1, hl1⟩ : ∃ l, xs.length = l := ⟨_, rfl⟩
    obtain ⟨l2, hl2⟩ : ∃ l, ys.length = l := ⟨_, rfl⟩
    rw [hl1] at hne q1 ⊢
    rw [hl2] at hne q2 ⊢
    clear h1 g1 hl hl1 hl2 hB
    go_enter Try.func37, Try.ntmps37
    go_wp2_with fail
    go_ret
    exact ⟨rfl, Below.refl _ _⟩
  obtain ⟨B, hB⟩ : ∃ B, eqw xs ys = B := ⟨_, rfl⟩
  have HBY : Hid (xs = ys → B = true) := fun h => by rw [← hB]; exact eqw_yes h
  have HBN : Hid (¬ xs = ys → B = false) := fun h => by rw [← hB]; exact eqw_no h
  rw [hB]
  clear hB
  obtain ⟨l3, hl3⟩ : ∃ l, xs.length = l := ⟨_, rfl⟩
  have hl4 : ys.length = l3 := by omega
  have HL : Hid (xs.length = l3 ∧ ys.length = l3) := ⟨hl3, hl4⟩
  have HE : Hid (RowOf 4 InsR w (.slice a3 xs.length c3) xs) := h1
  have GE : Hid (RowOf 4 InsR w (.slice b3 ys.length d3) ys) := g1
  rw [hl3] at q1 ⊢
  rw [hl4]
  have hne : ((l3 : Int) != (l3 : Int)) = false := by simp
  clear h1 g1 hl hl3 hl4 q2
  go_enter Try.func37, Try.ntmps37
  go_wp2_with fail
  go_loopw [13] (fun i wr => ∃ (j : Nat), j ≤ l3 ∧ i = .int .i64 j ∧ Hid (Below w.heap.size w wr) ∧ Hid (xs.take j = ys.take j)) (fun i _ => l3 - (intOf i).toNat)
  case atStart => exact ⟨0, Nat.zero_le _, rfl, Below.refl _ _, rfl⟩
  case round =>
    obtain ⟨j, hj, rfl, hb, HS⟩ := hrel
    have hbw := hb.out
    by_cases hjl : j < l3
    · obtain ⟨t, ht⟩ : ∃ t, xs[j]? = some t := ⟨_, List.getElem?_eq_getElem (by rw [HL.out.1]; exact hjl)⟩
      obtain ⟨u, hu⟩ : ∃ t, ys[j]? = some t := ⟨_, List.getElem?_eq_getElem (by rw [HL.out.2]; exact hjl)⟩
      obtain ⟨t0, t1, t2, t4⟩ := t
      obtain ⟨u0, u1, u2, u4⟩ := u
      obtain ⟨b, o, rfl, f0, f1, f2, f3⟩ := Ins_at HE.out j _ ht
      obtain ⟨b', o', rfl, g0, g1, g2, g3⟩ := Ins_at GE.out j _ hu
      have f0 := cell_later hbw f0
      have f1 := cell_later hbw f1
      have f2 := cell_later hbw f2
      have f3 := cell_later hbw f3
      have g0 := cell_later hbw g0
      have g1 := cell_later hbw g1
      have g2 := cell_later hbw g2
      have g3 := cell_later hbw g3
      simp only [] at f0 f1 f2 f3 g0 g1 g2 g3
      have hjl' : (j : Int) < (l3 : Int) := by omega
      by_cases htu : t0 = u0 ∧ t1 = u1 ∧ t2 = u2 ∧ t4 = u4
      · obtain ⟨rfl, rfl, rfl, rfl⟩ := htu
        have HS2 : Hid (xs.take (j + 1) = ys.take (j + 1)) := take_sameW ht hu HS.out rfl
        clear ht hu HS
        have HX : Hid (Below w.heap.size w wr.drew) := hb.out.drew
        clear hb hbw
        go_wp2_with fail
        go_region_with (fail)
        all_goals
          go_wp2_with fail
          go_roundw
          case rel => exact ⟨j + 1, by omega, by go_num, HX, HS2⟩
          case measure => simp [intOf]; omega
      · have hB : B = false := HBN.out (unlike_atW ht hu (fun e => htu (by injection e with a1 a2 a3 a4; exact ⟨a1, a2, a3, a4⟩)))
        clear ht hu HS
        have HXW : Hid (Below w.heap.size w wr.drew) := hbw.drew
        clear hb hbw
        by_cases h0 : t0 = u0
        · subst h0
          by_cases h1 : t1 = u1
          · subst h1
            by_cases h2 : t2 = u2
            · subst h2
              have h4 : ¬ t4 = u4 := fun e => htu ⟨rfl, rfl, rfl, e⟩
              clear htu
              go_wp2_with fail
              go_region_with (fail)
              all_goals
                go_wp2_with fail
                go_ret
                exact ⟨by rw [hB]; rfl, HXW.out⟩
            · have h2' : ¬ t2.toList = u2.toList := fun e => h2 (str_same0 e)
              clear htu
              go_wp2_with fail
              go_region_with (fail)
              all_goals
                go_wp2_with fail
                go_ret
                exact ⟨by rw [hB]; rfl, HXW.out⟩
          · skip
            clear htu
            go_wp2_with fail
            go_region_with (fail)
            all_goals
              go_wp2_with fail
              go_ret
              exact ⟨by rw [hB]; rfl, HXW.out⟩
        · skip
          clear htu
          go_wp2_with fail
          go_region_with (fail)
          all_goals
            go_wp2_with fail
            go_ret
            exact ⟨by rw [hB]; rfl, HXW.out⟩
    · obtain rfl : j = l3 := by omega
      have hB : B = true := HBY.out (take_allW HL.out.1 HL.out.2 HS.out)
      clear HS
      go_wp2_with fail
      go_ret
      exact ⟨by rw [hB]; rfl, hbw⟩

end Go.Proofs.Ytahmbnokjfkfiaa
