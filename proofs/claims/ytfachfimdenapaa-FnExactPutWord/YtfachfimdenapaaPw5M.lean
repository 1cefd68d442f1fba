/- A list of terms copied by the model. -/
import Derived.Test.YtfachfimdenapaaCpM
import Derived.Test.YtfachfimdenapaaIGet2M
import Derived.Deep.RegionHeld3
import Derived.Deep.DeepCutAuto
namespace Go.Proofs.Ytfachfimdenapaa
open Go.RowKit
set_option linter.unusedVariables false

theorem call_step {d : Nat} {w wr w' V2 w2 : World} {B j : Nat} {ts : List (Tm (d + 1))} {t : Tm (d + 1)} {v v' : Value} {a2 : Option Addr} {l2 c2 : Nat} {fp f2 : List Nat} {cs : List Value}
    (hb : Below w.heap.size w wr) (hB : w.heap.size ≤ B) (hM : Made (d + 1) B wr v (ts.take j) fp) (hrow : wr.ownsRow B 31 4 v j cs) (ht : ts[j]? = some t) (hwt : WfT (d + 1) t) (hj : j ≤ 1048576) (hBz : B ≤ wr.heap.size)
    (hP : Made d (wr.heap.size + 1 + 1 + 1) w' (.slice a2 l2 c2) t.L f2) (hbw : Below wr.heap.size wr w') (hV2 : Below w'.heap.size w' V2)
    (hown : w2.ownsRow B 31 4 v' (j + 1) (cs ++ [.int .i64 t.K, .int .i64 t.N, .string t.S, .slice a2 l2 c2])) (hgr : V2.grownBy w2 v.ownBlock)
    (hat : v'.ownBlock = v.ownBlock ∨ v'.ownBlock = some V2.heap.size) : ∃ fp', Made (d + 1) B w2 v' (ts.take (j + 1)) fp' ∧ Below w.heap.size w w2 ∧ B ≤ w2.heap.size ∧ ∀ g ∈ fp', g ∈ fp ∨ wr.heap.size ≤ g := by
  have z1 := hbw.size
  have z2 := hV2.size
  have z3 := hgr.size
  have hob : ∀ g, v.ownBlock = some g → B ≤ g := fun g hg => by
    rcases hrow.2 with ⟨e, _⟩ | ⟨g', c', cur, e1, e2, e3, _⟩
    · rw [e] at hg; cases hg
    · rw [e1] at hg
      obtain rfl : g' = g := by simpa [Value.ownBlock] using hg
      exact e2
  obtain ⟨cs', fps, r1, r2, r3, r4, r5, r6⟩ := hM
  have hl : (ts.take j).length = j := by
    have := (List.getElem?_eq_some_iff.1 ht).1
    rw [List.length_take]; omega
  rw [hl] at r1
  obtain rfl := row_cs r1 hrow
  subst r3
  obtain ⟨a', l', c', f3, e3, q1, q2, q3⟩ := hP.own
  have kp : ∀ g, g < wr.heap.size → V2.heap[g]? = wr.heap[g]? := fun g hg => (hV2.block g (by omega)).trans (hbw.block g hg)
  have hF : Fresh B V2 (v.ownBlock.toList ++ fps.flatten) := ⟨r4.1, fun g hg => ⟨(r4.2 g hg).1, by have := (r4.2 g hg).2; omega⟩⟩
  have hpn : ∀ g ∈ v.ownBlock.toList ++ fps.flatten, V2.heap[g]? = wr.heap[g]? := fun g hg => kp g (r4.2 g hg).2
  obtain ⟨fp', hm, hmem⟩ := made_step (w := V2) (t := t) (f := f3) (ts := ts.take j) (by rw [hl]; exact rowKept r1 fun g hg => hpn g (List.mem_append_left _ (by rw [hg]; exact List.mem_singleton.2 rfl))) r2 hF r5 (r6.frame fun g hg => hpn g (List.mem_append_right _ hg))
    (q1.frame fun g hg => hV2.block g (q2.2 g hg).2) ⟨q2.1, fun g hg => ⟨by have := (q2.2 g hg).1; omega, by have := (q2.2 g hg).2; omega⟩⟩ (fun g hg hf => by have := (q2.2 g hg).1; have := (r4.2 g hf).2; omega) hwt (by omega) (by omega) (by rw [hl]; exact hown) hgr hat
  have htk : ts.take (j + 1) = ts.take j ++ [t] := by
    have hlt := (List.getElem?_eq_some_iff.1 ht).1
    have he := (List.getElem?_eq_some_iff.1 ht).2
    rw [List.take_succ_eq_append_getElem hlt, he]
  have hbV : Below w.heap.size w V2 := (hb.trans (hbw.mono hb.size)).trans (hV2.mono (by have := hb.size; omega))
  exact ⟨fp', by rw [htk]; exact hm, hbV.grown hgr hbV.size (fun k hk => by have := hob k hk; omega), by omega, fun g hg => by
    rcases hmem g hg with h | h | h
    · exact .inl h
    · exact .inr (by have := (q2.2 g h).1; omega)
    · exact .inr (by omega)⟩

/-- Where the copy stands. -/
def CaI (d : Nat) (w : World) (B : Nat) (ts : List (Tm (d + 1))) (v : Value) (wr : World) (j : Nat) : Prop := ∃ fp, Made (d + 1) B wr v (ts.take j) fp ∧ Below w.heap.size w wr ∧ B ≤ wr.heap.size

set_option maxRecDepth 100000 in
set_option maxHeartbeats 4000000 in
theorem copyAll_any (d : Nat) (a : Option Addr) (n c : Nat) (ts : List (Tm (d + 1))) (w : World) (hr : RdL (d + 1) w (.slice a n c) ts) (hw : WfL (d + 1) ts) (hfw : FewL (d + 1) ts) (hn : ts.length = n) :
    Calls Try.prog 50 #[.slice a n c] w fun e w' => ∃ av lv cv fp, e = .returned (.slice av lv cv) ∧ Hid (Made (d + 1) w.heap.size w' (.slice av lv cv) ts fp) ∧ Below w.heap.size w w' := by
  obtain ⟨i0, hi, hi0, hi1, hi2⟩ := info_parts Try.infoTerm
  have hn1 : n ≤ 1048576 := by rw [← hn]; exact hfw.1
  obtain ⟨W, hW⟩ : ∃ W, W = w.alloc (.cells #[] 31) := ⟨_, rfl⟩
  have hA : Below w.heap.size w W := by rw [hW]; exact (Below.refl _ _).alloc (Nat.le_refl _) _
  have nA : W.heap[w.heap.size]? = some (.cells #[] 31 (0, 0)) := by rw [hW]; exact heap_alloc_new w _
  have HS : Hid (CaI d w w.heap.size ts (.slice (some ⟨w.heap.size, 0, none⟩) 0 0) W 0) := ⟨_, made_empty nA (Nat.le_refl _), hA, hA.size⟩
  have HD : Hid (RdL (d + 1) w (.slice a n c) ts ∧ WfL (d + 1) ts ∧ FewL (d + 1) ts ∧ ts.length = n) := ⟨hr, hw, hfw, hn⟩
  have HW : Hid (W = _) := hW
  clear hr hw hfw hn hA nA hW
  go_enter Try.func50, Try.ntmps50
  go_wp2_with fail
  rw [← HW.out]
  go_loopw [3, 4] (fun out i wr => ∃ j : Nat, j ≤ n ∧ i = .int .i64 j ∧ Hid (CaI d w w.heap.size ts out wr j)) (fun _ i _ => n - (intOf i).toNat)
  case atStart => exact ⟨0, Nat.zero_le _, rfl, HS.out⟩
  case round =>
    rename_i v3 v4
    obtain ⟨j, hj, rfl, HI⟩ := hrel
    obtain ⟨fp, hM, hb, hBz⟩ := HI.out
    have hl : (ts.take j).length = j := by rw [List.length_take, HD.out.2.2.2]; omega
    obtain ⟨cs, hcs⟩ := made_row hM
    rw [hl] at hcs
    obtain ⟨ua, ul, uc, rfl⟩ := row_slice hcs
    by_cases hjl : j < n
    · obtain ⟨t, ht⟩ : ∃ t, ts[j]? = some t := ⟨_, List.getElem?_eq_getElem (by rw [HD.out.2.2.2]; exact hjl)⟩
      obtain ⟨a', c', e', hel⟩ := HD.out.1
      simp only [Value.slice.injEq] at e'
      obtain ⟨bb, oo, tv, g1, g2, g3⟩ := hel j t ht
      obtain rfl : a = some ⟨bb, oo, none⟩ := e'.1.trans g1
      obtain ⟨xa, xc, ex⟩ := g3.len
      obtain ⟨xl, hxl⟩ : ∃ xl, t.L.length = xl := ⟨_, rfl⟩
      rw [hxl] at ex
      subst ex
      obtain ⟨f0, f1, f2, f3⟩ := g2.later hb
      have hwt : WfT (d + 1) t := HD.out.2.1.2 t (List.mem_of_getElem? ht)
      have hC := l2Copy_any d t.K t.N t.S _ t.L wr (g3.later hb) hwt.2.2.2 (HD.out.2.2.1.2 t (List.mem_of_getElem? ht))
      have HST : Hid (Made (d + 1) w.heap.size wr (.slice ua ul uc) (ts.take j) fp ∧ wr.ownsRow w.heap.size 31 4 (.slice ua ul uc) j cs ∧ ts[j]? = some t ∧ WfT (d + 1) t ∧ Below w.heap.size w wr ∧ w.heap.size ≤ wr.heap.size) := ⟨hM, hcs, ht, hwt, hb, hBz⟩
      clear hM hcs ht hwt hb HI g2 g3 hel e' hxl hl
      go_wp2_with fail
      refine hC.mono ?_
      clear hC
      rintro e w4 ⟨a2, l2, c2, f2', rfl, HP, hbw⟩
      have hob : ∀ g, (Value.slice ua ul uc).ownBlock = some g → w.heap.size ≤ g ∧ g < wr.heap.size := fun g hg => by
        rcases HST.out.2.1.2 with ⟨e, _⟩ | ⟨g', c', cur, e1, e2, e3, _⟩
        · rw [e] at hg; cases hg
        · rw [e1] at hg
          obtain rfl : g' = g := by simpa [Value.ownBlock] using hg
          exact ⟨e2, lt_of_row' e3⟩
      have hrow4 : w4.ownsRow w.heap.size 31 4 (.slice ua ul uc) j cs := rowKept HST.out.2.1 fun g hg => hbw.block g (hob g hg).2
      have hz4 : w.heap.size ≤ w4.heap.size := Nat.le_trans hBz hbw.size
      have HBW : Hid (Below wr.heap.size wr w4) := hbw
      clear hob hbw
      go_wp2_with (at_builtin; refine wpList_append_own_at _ rfl _ _ 29 rfl w.heap.size 31 i0 (.agg #[.int .i64 0, .int .i64 0, .string ⟨#[]⟩, .slice none 0 0]) 4 56 Try.underlying29 hi hi0 hi1 hi2 rfl (by decide) _ j _ rfl (hrow4.alloc _) ⟨w4.heap.size, 0, none⟩ 1 1 [.int .i64 t.K, .int .i64 t.N, .string t.S, .slice a2 l2 c2] rfl rfl (four_new w4 _ _ _ _ _) (by intro u hu; simp at hu; rcases hu with rfl | rfl | rfl | rfl <;> rfl) (by unfold maxLen; omega) (by omega) (by simp; omega) ?_)
      intro v' w5 hown5 hgrow5 hnil5 hat5
      have HNX : Hid (CaI d w w.heap.size ts v' w5 (j + 1)) := by
        obtain ⟨fq, y1, y2, y3, _⟩ := call_step HST.out.2.2.2.2.1 (Nat.le_refl _) HST.out.1 HST.out.2.1 HST.out.2.2.1 HST.out.2.2.2.1 (by omega) HST.out.2.2.2.2.2 HP.out HBW.out ((Below.refl _ _).alloc (Nat.le_refl _) _) hown5 hgrow5 (by simpa using hat5)
        exact ⟨fq, y1, y2, y3⟩
      clear hown5 hgrow5 hnil5 hat5 hrow4
      go_wp2_with fail
      go_roundw
      case rel => exact ⟨j + 1, by omega, by go_num, HNX.out⟩
      case measure => simp [intOf]; omega
    · obtain rfl : j = n := by omega
      have htk : ts.take j = ts := List.take_of_length_le (by rw [HD.out.2.2.2]; exact Nat.le_refl _)
      have HE : Hid (Made (d + 1) w.heap.size wr (.slice ua ul uc) ts fp ∧ Below w.heap.size w wr) := by rw [htk] at hM; exact ⟨hM, hb⟩
      clear hM hb hcs HI
      go_wp2_with fail
      go_ret
      exact ⟨ua, ul, uc, fp, rfl, HE.out.1, HE.out.2⟩

end Go.Proofs.Ytfachfimdenapaa
