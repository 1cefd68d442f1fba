/- The heights of a function: the program's. -/
import Derived.Test.YtfachfimdenapaaDoorCk5M
import Derived.Test.YtfachfimdenapaaDoorCk8M
namespace Go.Proofs.YtfachfimdenapaaDoor
open Go.RowKit
set_option linter.unusedVariables false

def GtRes (o : Option (List Int)) (w : World) (e : Ending) (w' : World) : Prop := ∃ (v : Value) (b : Bool), e = .returned (.tuple #[v, .bool b]) ∧ (b = true → ∃ (q : List Int) (g c : Nat), o = some q ∧ v = .slice (some ⟨g, 0, none⟩) q.length c ∧ w.heap.size ≤ g ∧ HRow w' g q) ∧ (b = false → o = none) ∧ Below w.heap.size w w'
theorem gt_yes {o : Option (List Int)} {w w' : World} {q : List Int} {g n c : Nat} (h : o = some q) (hn : n = q.length) (h1 : HRow w' g q) (hg : w.heap.size ≤ g) (h2 : Below w.heap.size w w') : GtRes o w (.returned (.tuple #[.slice (some ⟨g, 0, none⟩) n c, .bool true])) w' := ⟨_, true, rfl, fun _ => ⟨q, g, c, h, by rw [hn], hg, h1⟩, (fun e => by cases e), h2⟩
theorem gt_no {o : Option (List Int)} {w w' : World} {v : Value} (h : o = none) (h2 : Below w.heap.size w w') : GtRes o w (.returned (.tuple #[v, .bool false])) w' := ⟨v, false, rfl, (fun e => by cases e), fun _ => h, h2⟩

theorem hs0_set (n : Nat) (h : 1 ≤ n) : (List.replicate n (-1 : Int)).set 0 0 = hs0 n := by
  obtain ⟨k, rfl⟩ : ∃ k, n = k + 1 := ⟨n - 1, by omega⟩
  unfold hs0
  simp [List.replicate_succ]

theorem stP_all {n i : Nat} {x : DIns} {hs q : List Int} (h : stP n i x hs = some q) (ha : ∀ y ∈ hs, I64 y) : q.length = hs.length ∧ ∀ y ∈ q, I64 y := by
  have w64 : ∀ z : Int, I64 (wrap64 z) := fun z => by unfold wrap64; constructor <;> omega
  unfold stP at h
  cases hh : hs[i]? with
  | none => rw [hh] at h; cases h
  | some y =>
    rw [hh] at h
    have hy := ha y (List.mem_of_getElem? hh)
    simp only at h
    split at h
    · cases h
    rename_i hlt
    split at h
    · rename_i h9
      split at h
      · obtain ⟨r, e1, e2⟩ := Option.bind_eq_some_iff.1 h
        split at e2
        · have ht : tkD x.Op x.N = 1 := by rw [h9]; rfl
          refine ⟨(cmD_len e2).trans (cmD_len e1), cmD_all e2 (cmD_all e1 ha hy) ?_⟩
          constructor <;> (have := hy.1; have := hy.2; omega)
        · cases e2
      · cases h
    split at h
    · split at h
      · exact ⟨cmD_len h, cmD_all h ha hy⟩
      · cases h
    split at h
    · cases h; exact ⟨rfl, ha⟩
    split at h
    · split at h
      · cases h; exact ⟨rfl, ha⟩
      · cases h
    split at h
    · exact ⟨cmD_len h, cmD_all h ha (w64 _)⟩
    · cases h

set_option maxRecDepth 100000 in
set_option maxHeartbeats 4000000 in
theorem heightsOf_any (l : List DIns) (a : Option Addr) (len c : Nat) (w : World) (hr : RowOf 4 InsR w (.slice a len c) l) (hl : l.length = len) (h1 : 1 ≤ len) (h2 : len ≤ 1500) (hop : ∀ x ∈ l, 1 ≤ x.Op ∧ x.Op ≤ 12) :
    Calls Tryd.prog 72 #[.slice a len c] w fun e w' => GtRes (rnP len 0 l (hs0 len)) w e w' := by
  obtain ⟨W, hW⟩ : ∃ W, W = w.alloc (.cells #[.int .i64 (-1)] 3) := ⟨_, rfl⟩
  have hA : Below w.heap.size w W := by rw [hW]; exact (Below.refl _ _).alloc (Nat.le_refl _) _
  have hWz : W.heap.size = w.heap.size + 1 := by rw [hW]; simp
  have hq : W.heap[w.heap.size]? = some (.cells #[.int .i64 (-1)] 3 (0, 0)) := by rw [hW]; exact heap_alloc_new w _
  have hC := repeat_any w.heap.size (-1) len W h1 h2 hq
  rw [hWz] at hC
  have HA : Hid (Below w.heap.size w W ∧ W.heap.size = w.heap.size + 1) := ⟨hA, hWz⟩
  have HE : Hid (∀ V : World, Below w.heap.size w V → RowOf 4 InsR V (.slice a len c) l) := fun V hV => hr.later InsR.lasts hV
  have HL : Hid (l.length = len) := hl
  have HOP : Hid (∀ x ∈ l, 1 ≤ x.Op ∧ x.Op ≤ 12) := hop
  rw [hW] at hC
  have HW : Hid (W = _) := hW
  obtain ⟨OO, hOO⟩ : ∃ o, rnP len 0 l (hs0 len) = o := ⟨_, rfl⟩
  have HOO : Hid (rnP len 0 l (hs0 len) = OO) := hOO
  rw [hOO]
  clear hr hl hop hA hWz hq hW hOO
  go_enter Tryd.func72, Tryd.ntmps72
  go_wp2_with fail
  refine hC.mono ?_
  clear hC
  rintro e w1 ⟨rfl, hR1, hB1⟩
  rw [← HW.out, ← HA.out.2] at hB1
  have c0 : w1.cell? ⟨w.heap.size + 1, 0, none⟩ = some (.int .i64 (-1)) := hR1.cell (by rw [List.getElem?_replicate, if_pos (by omega)])
  have z0 : w1.frozen? ⟨w.heap.size + 1, 0, none⟩ = false := hR1.thaw 0
  have hg1 : w.heap.size + 1 < w1.heap.size := hR1.lt
  have HR2 : Hid (HRow (w1.setCell ⟨w.heap.size + 1, 0, none⟩ (.int .i64 0)) (w.heap.size + 1) (hs0 len)) := by
    have := hR1.set 0 0
    rw [hs0_set len h1] at this
    exact this
  have HB2 : Hid (Below w.heap.size w (w1.setCell ⟨w.heap.size + 1, 0, none⟩ (.int .i64 0))) := by
    have b1 : Below w.heap.size w w1 := HA.out.1.trans (hB1.mono HA.out.1.size)
    exact b1.trans ((Turned.of_set w1 (w.heap.size + 1) 0 _).below (by omega) (by omega))
  have hlen0 : (0 : Int) < (len : Int) := by omega
  clear hR1 hB1 HW HA
  go_wp2_with fail
  obtain ⟨X, hX⟩ : ∃ X, w1.setCell ⟨w.heap.size + 1, 0, none⟩ (.int .i64 0) = X := ⟨_, rfl⟩
  rw [hX] at HR2 HB2 ⊢
  clear c0 z0 hX hg1
  go_loopw [15] (fun i wr => ∃ (j : Nat) (hs : List Int), j ≤ len ∧ i = .int .i64 j ∧ Hid (HRow wr (w.heap.size + 1) hs) ∧ Hid (hs.length = len ∧ (∀ y ∈ hs, I64 y) ∧ rnP len j (l.drop j) hs = OO) ∧ Hid (Below w.heap.size w wr)) (fun i _ => len - (intOf i).toNat)
  case atStart => exact ⟨0, hs0 len, Nat.zero_le _, rfl, HR2, ⟨hs0_len h1, fun y hy => by
    unfold hs0 at hy
    rcases List.mem_cons.1 hy with rfl | h
    · constructor <;> omega
    · rw [(List.mem_replicate.1 h).2]; constructor <;> omega, HOO.out⟩, HB2⟩
  case round =>
    obtain ⟨j, hs, hj, rfl, HRj, HIj, HBj⟩ := hrel
    by_cases hjl : j < len
    · obtain ⟨x, hx⟩ : ∃ x, l[j]? = some x := ⟨_, List.getElem?_eq_getElem (by have := HL.out; omega)⟩
      obtain ⟨b, o, rfl, f0, f1, f2, f3⟩ := Ins_at (HE.out wr HBj.out) j x hx
      obtain ⟨h, hh⟩ : ∃ h, hs[j]? = some h := ⟨_, List.getElem?_eq_getElem (by have := HIj.out.1; omega)⟩
      have hjl' : (j : Int) < (len : Int) := by omega
      have hd : l.drop j = x :: l.drop (j + 1) := by
        obtain ⟨q1, q2⟩ := List.getElem?_eq_some_iff.1 hx
        rw [List.drop_eq_getElem_cons q1, q2]
      have HST : Hid (OO = (stP len j x hs).bind (rnP len (j + 1) (l.drop (j + 1)))) := by
        have := HIj.out.2.2
        rw [hd] at this
        rw [← this]
        rfl
      obtain ⟨o1, o2⟩ := HOP.out x (List.mem_of_getElem? hx)
      have hC : ∀ V : World, Below wr.heap.size wr V → Calls Tryd.prog 79 #[.slice (some ⟨w.heap.size + 1, 0, none⟩) len len, .int .i64 j, .agg #[.int .i64 x.Op, .int .i64 x.N, .string x.S, .int .i64 x.To]] V fun e w' => HRes (stP len j x hs) (w.heap.size + 1) V e w' := fun V hV =>
        leave_any (w.heap.size + 1) hs len len j h x.Op x.N x.S x.To V (HRj.out.kept (hV.block _ HRj.out.lt)) HIj.out.1.symm hh (HIj.out.2.1 h (List.mem_of_getElem? hh)) h2 o1 o2
      have HAL : Hid (∀ q, stP len j x hs = some q → q.length = len ∧ ∀ y ∈ q, I64 y) := fun q hq => by
        have := stP_all hq HIj.out.2.1
        rw [HIj.out.1] at this
        exact this
      have hbl : b < wr.heap.size := by have := World.block_lt_of_cell? wr _ f0; simpa using this
      clear hx hh hd o1 o2 HIj HRj
      go_wp2_with fail
      refine (hC _ ((Below.refl _ _).alloc (Nat.le_refl _) _)).mono ?_
      rintro e w' ⟨b', rfl, y1, y2, y3⟩
      have HB3 : Hid (Below w.heap.size w w') := by
        have b1 : Below w.heap.size w (wr.alloc (.cells #[.int .i64 x.Op, .int .i64 x.N, .string x.S, .int .i64 x.To] 48)) := HBj.out.trans (((Below.refl _ _).alloc (Nat.le_refl _) _).mono HBj.out.size)
        exact b1.trans (y3.below (by omega) b1.size)
      clear hC y3
      cases b' with
      | false =>
        have HF : Hid (OO = none) := by rw [HST.out, y2 rfl]; rfl
        clear y1 y2
        go_wp2_with fail
        go_ret2
        exact gt_no HF.out HB3.out
      | true =>
        obtain ⟨q, e1, e2⟩ := y1 rfl
        have HIQ : Hid (q.length = len ∧ (∀ y ∈ q, I64 y) ∧ rnP len (j + 1) (l.drop (j + 1)) q = OO) := ⟨(HAL.out q e1).1, (HAL.out q e1).2, by rw [HST.out, e1]; rfl⟩
        have HRQ : Hid (HRow w' (w.heap.size + 1) q) := e2
        clear y1 y2 e1 e2 HST HAL
        go_wp2_with fail
        go_roundw
        case rel => exact ⟨j + 1, q, by omega, by go_num, HRQ, HIQ, HB3⟩
        case measure => simp [intOf]; omega
    · obtain rfl : j = len := by omega
      have hjl' : decide ((j : Int) < (j : Int)) = false := by simp
      have HF : Hid (OO = some hs) := by
        have := HIj.out.2.2
        rw [List.drop_of_length_le (by rw [HL.out]; omega)] at this
        exact this.symm
      have HLN : Hid (j = hs.length) := HIj.out.1.symm
      clear HIj
      go_wp2_with fail
      go_ret2
      exact gt_yes HF.out HLN.out HRj.out (by omega) HBj.out

end Go.Proofs.YtfachfimdenapaaDoor
