/- The slots of a pattern: the model's. -/
import Derived.Test.YtfcdmmmihiojoaaSp9b
import Derived.Test.YtfcdmmmihiojoaaSVars
namespace Go.Proofs.Ytfcdmmmihiojoaa
open Go.RowKit
set_option linter.unusedVariables false

def ownSlot (k n : Int) : List Int := if k = 3 ∧ n ≠ -1 then [n] else []
/-- The slots of a pattern, from the left. -/
def slotsP : (d : Nat) → Tm d → List Int
  | 0, _ => []
  | d + 1, e => ownSlot e.K e.N ++ e.L.flatMap (slotsP d)

theorem ownSlot_len (k n : Int) : (ownSlot k n).length ≤ 1 := by unfold ownSlot; split <;> simp

theorem slotsP_len : ∀ (d : Nat) (e : Tm d), (slotsP d e).length ≤ 1 + szPatD d e := by
  intro d
  induction d with
  | zero => intro e; exact Nat.zero_le _
  | succ d ih =>
    intro e
    have h1 := ownSlot_len e.K e.N
    have h2 : (e.L.flatMap (slotsP d)).length ≤ szRow (szPatD d) e.L := by
      unfold szRow
      generalize e.L = l
      induction l with
      | nil => exact Nat.zero_le _
      | cons x l ihl => simp only [List.flatMap_cons, List.length_append, List.map_cons, List.sum_cons, List.length_cons]; have := ih x; omega
    show (ownSlot e.K e.N ++ e.L.flatMap (slotsP d)).length ≤ 1 + (e.S.size + szRow (szPatD d) e.L)
    rw [List.length_append]
    omega

/-- A row of texts in memory of one's own. -/
def IntRow (w : World) (B : Nat) (v : Value) (l : List Int) : Prop := w.ownsRow B 3 1 v l.length (l.map (Value.int .i64))


theorem IntRow.cells {w : World} {B g n c : Nat} {l : List Int} (h : IntRow w B (.slice (some ⟨g, 0, none⟩) n c) l) : n = l.length ∧ ∀ (j : Nat) (u : Value), (l.map (Value.int .i64))[j]? = some u → w.cell? ((⟨g, 0, none⟩ : Addr).add j) = some u := by
  rcases h.2 with ⟨e, _⟩ | ⟨g', cap, cur, e, _, hg, _, _, hs, ht⟩
  · cases e
  · simp only [Value.slice.injEq, Option.some.injEq, Addr.mk.injEq, and_true] at e
    obtain ⟨rfl, rfl, rfl⟩ := e
    refine ⟨rfl, fun j u hu => ?_⟩
    have hj : j < l.length := by have := (List.getElem?_eq_some_iff.1 hu).1; simpa using this
    rw [Addr.add_lit, Nat.zero_add, cell_of_row w _ _ _ _ _ hg]
    rw [Nat.mul_one] at ht
    rw [← ht, List.getElem?_take, if_pos hj] at hu
    simpa using hu

theorem IntRow.kept {w w' : World} {B : Nat} {v : Value} {l : List Int} (h : IntRow w B v l) (hk : ∀ g, v.ownBlock = some g → w'.heap[g]? = w.heap[g]?) : IntRow w' B v l := rowKept h hk
theorem IntRow.blk {w : World} {B : Nat} {v : Value} {l : List Int} (h : IntRow w B v l) : ∀ g, v.ownBlock = some g → B ≤ g ∧ g < w.heap.size := fun g hg => by
  rcases h.2 with ⟨e, _⟩ | ⟨g', c', cur, e1, e2, e3, _⟩
  · rw [e] at hg; cases hg
  · rw [e1] at hg
    obtain rfl : g' = g := by simpa [Value.ownBlock] using hg
    exact ⟨e2, lt_row e3⟩
theorem IntRow.empty {w : World} {g B : Nat} (h : w.heap[g]? = some (.cells #[] 3 (0, 0))) (hB : B ≤ g) : IntRow w B (.slice (some ⟨g, 0, none⟩) 0 0) [] :=
  ⟨rfl, .inr ⟨g, 0, #[], rfl, hB, h, Nat.le_refl _, Nat.zero_le _, rfl, rfl⟩⟩
theorem IntRow.ptr {w w' : World} {B : Nat} {v v' : Value} {l : List Int} (h : IntRow w B v' l) (hv : v' = .slice none 0 0 ↔ v = .slice none 0 0 ∧ False) : ∃ g n c, v' = .slice (some ⟨g, 0, none⟩) n c := by
  rcases h.2 with ⟨e, _⟩ | ⟨g', c', cur, e1, _⟩
  · exact absurd (hv.1 e).2 id
  · exact ⟨_, _, _, e1⟩

/-- How the names are gathered. -/
def SMid (w wr : World) (ob : Array Value) (l : List Int) (v : Value) : Prop :=
  wr.heap[w.heap.size]? = some (.cells ob 29 (0, 0)) ∧ IntRow wr (w.heap.size + 1) v l ∧ Below w.heap.size w wr ∧ ∃ g n c, v = .slice (some ⟨g, 0, none⟩) n c

theorem SMid.later {w wr w' : World} {ob : Array Value} {l : List Int} {v : Value} (h : SMid w wr ob l v) (hb : Below wr.heap.size wr w') : SMid w w' ob l v := by
  obtain ⟨h1, h2, h3, h4⟩ := h
  exact ⟨(hb.block _ (lt_row h1)).trans h1, h2.kept fun g hg => hb.block g (h2.blk g hg).2, h3.trans (hb.mono h3.size), h4⟩

theorem SMid.app {w wr w2 : World} {ob : Array Value} {l m : List Int} {v v' : Value} (h : SMid w wr ob l v) (hown : w2.ownsRow (w.heap.size + 1) 3 1 v' (l.length + m.length) (l.map (Value.int .i64) ++ m.map (Value.int .i64))) (hg : wr.grownBy w2 v.ownBlock) (hn : v' = .slice none 0 0 ↔ v = .slice none 0 0 ∧ m.length = 0) : SMid w w2 ob (l ++ m) v' := by
  obtain ⟨h1, h2, h3, g, n, c, rfl⟩ := h
  have hr : IntRow w2 (w.heap.size + 1) v' (l ++ m) := by
    unfold IntRow
    rw [List.length_append, List.map_append]
    exact hown
  have hz := hg.size
  have hgb := (h2.blk g rfl).1
  refine ⟨(hg.block _ (lt_row h1) (by simp [Value.ownBlock]; omega)).trans h1, hr, ?_, ?_⟩
  · refine h3.trans ⟨hg.os, hg.tape, hg.output, hg.size, fun x hx => hg.block x (Nat.lt_of_lt_of_le hx h3.size) (by simp [Value.ownBlock]; omega)⟩
  · rcases hr.2 with ⟨e, _⟩ | ⟨g', c', cur, e1, _⟩
    · have := (hn.1 e).1; cases this
    · exact ⟨_, _, _, e1⟩

theorem SMid.row {w wr : World} {ob : Array Value} {l : List Int} {v : Value} (h : SMid w wr ob l v) : wr.ownsRow (w.heap.size + 1) 3 1 v l.length (l.map (Value.int .i64)) := h.2.1

def SlC (d : Nat) : Prop := ∀ (vs : List Value) (e : Tm d) (w : World), PatR d w vs e → szPatD d e ≤ 1048576 →
  Calls Try.prog 12 #[.agg vs.toArray] w fun r w' => ∃ g n c, r = .returned (.slice (some ⟨g, 0, none⟩) n c) ∧ Hid (IntRow w' w.heap.size (.slice (some ⟨g, 0, none⟩) n c) (slotsP d e)) ∧ Below w.heap.size w w'

set_option maxRecDepth 100000 in
set_option maxHeartbeats 2000000 in
theorem l9Slots_of (d : Nat) (H : SlC d) : SlC (d + 1) := by
  obtain ⟨i0, hi, hi0, hi1, hi2⟩ := info_parts Try.infoInt
  rintro vs x w ⟨ve, rfl, h1⟩ hz
  have hz' : x.S.size + szRow (szPatD d) x.L ≤ 1048576 := hz
  obtain ⟨a3, c3, rfl, hel⟩ := h1
  have HE : Hid (∀ (i : Nat) (e : Tm d), x.L[i]? = some e → ∃ b o vs, a3 = some ⟨b, o, none⟩ ∧ vs.length = 4 ∧ (∀ (j : Nat) (u : Value), vs[j]? = some u → w.cell? ⟨b, o + i * 4 + j, none⟩ = some u) ∧ PatR d w vs e) := hel
  obtain ⟨len, e3⟩ : ∃ l, x.L.length = l := ⟨_, rfl⟩
  have HLN : Hid (x.L.length = len) := e3
  have hlm : len ≤ 1048576 := by have := sumP_all (szPatD d) x.L; omega
  have HZ : Hid (szRow (szPatD d) x.L ≤ 1048576) := by show _ ≤ _; omega
  have HB : Hid (∀ j, (ownSlot x.K x.N ++ (x.L.take j).flatMap (slotsP d)).length ≤ 1048577) := fun j => by
    have h5 := ownSlot_len x.K x.N
    have h6 : ((x.L.take j).flatMap (slotsP d)).length ≤ szRow (szPatD d) x.L := by
      have : ((x.L.take j).flatMap (slotsP d)).length ≤ (x.L.flatMap (slotsP d)).length := by
        conv => rhs; rw [← List.take_append_drop j x.L, List.flatMap_append, List.length_append]
        omega
      refine Nat.le_trans this ?_
      unfold szRow
      generalize x.L = l
      induction l with
      | nil => exact Nat.zero_le _
      | cons y l ihl => simp only [List.flatMap_cons, List.length_append, List.map_cons, List.sum_cons, List.length_cons]; have := slotsP_len d y; omega
    rw [List.length_append]
    omega
  rw [e3]
  obtain ⟨K, hK⟩ : ∃ K, x.K = K := ⟨_, rfl⟩
  obtain ⟨N, hN⟩ : ∃ N, x.N = N := ⟨_, rfl⟩
  obtain ⟨S, hS⟩ : ∃ S, x.S = S := ⟨_, rfl⟩
  have HV : Hid (slotsP (d + 1) x = ownSlot K N ++ x.L.flatMap (slotsP d)) := by show _ = _; rw [← hK, ← hN]; rfl
  rw [hK, hN] at HB
  rw [hK, hN, hS]
  obtain ⟨W, hW⟩ : ∃ W, W = (w.alloc (Obj.cells #[.int .i64 K, .int .i64 N, .string S, .slice a3 len c3] 29)).alloc (.cells #[] 3) := ⟨_, rfl⟩
  have hWb : Below w.heap.size w W := by rw [hW]; exact ((Below.refl _ _).alloc (Nat.le_refl _) _).alloc (by simp) _
  have n1 : W.heap[w.heap.size]? = some (Obj.cells #[.int .i64 K, .int .i64 N, .string S, .slice a3 len c3] 29 (0, 0)) := by rw [hW, Below.heap_alloc _ _ _ (by simp)]; exact heap_alloc_new w _
  have n2 : W.heap[w.heap.size + 1]? = some (.cells #[] 3 (0, 0)) := by rw [hW]; have := heap_alloc_new (w.alloc (Obj.cells #[.int .i64 K, .int .i64 N, .string S, .slice a3 len c3] 29)) (.cells #[] 3); simpa using this
  have hWs : W.heap.size = w.heap.size + 1 + 1 := by rw [hW]; simp
  have HR0 : Hid (SMid w W #[.int .i64 K, .int .i64 N, .string S, .slice a3 len c3] [] (.slice (some ⟨w.heap.size + 1, 0, none⟩) 0 0)) := ⟨n1, IntRow.empty n2 (Nat.le_refl _), hWb, _, _, _, rfl⟩
  have HH : Hid (SlC d) := H
  clear e3 hK hN hS hz hz' hel n1 n2 hWb H
  rw [hW] at HR0
  by_cases hk : K = 3
  · subst hk
    by_cases hS : N = -1
    · have hon : Hid (ownSlot 3 N = []) := by show _ = _; unfold ownSlot; rw [if_neg]; exact fun h => h.2 hS
      have hne : (N != -1) = false := by simp [hS]
      clear hS
      go_enter Try.func12, Try.ntmps12
      go_wp2_with fail
      go_loopw [3, 4] (fun v i wr => ∃ j : Nat, j ≤ len ∧ i = .int .i64 j ∧ Hid (SMid w wr #[.int .i64 3, .int .i64 N, .string S, .slice a3 len c3] (ownSlot 3 N ++ (x.L.take j).flatMap (slotsP d)) v)) (fun _ i _ => len - (intOf i).toNat)
      case atStart => exact ⟨0, Nat.zero_le _, rfl, by rw [hon.out]; exact HR0⟩
      case round =>
        obtain ⟨j, hj, rfl, HM⟩ := hrel
        clear HR0
        obtain ⟨hbx, hrow, hbw, g, gn, gc, rfl⟩ := HM.out
        have b3 : wr.cell? ⟨w.heap.size, 3, none⟩ = some (.slice a3 len c3) := by rw [cell_of_row wr _ 3 _ _ _ hbx]; rfl
        by_cases hlt : j < len
        · obtain ⟨e, he⟩ : ∃ e, x.L[j]? = some e := ⟨_, List.getElem?_eq_getElem (by rw [HLN.out]; exact hlt)⟩
          obtain ⟨b, o, vs, rfl, hvl, hcell, hre⟩ := HE.out j e he
          obtain ⟨y0, y1, y2, ya3, yl3, yc3, rfl⟩ := PatR.shape _ _ _ _ hre
          have f0 : wr.cell? ⟨b, o + j * 4, none⟩ = some _ := cell_later hbw (hcell 0 _ rfl)
          have f1 : wr.cell? ⟨b, o + j * 4 + 1, none⟩ = some _ := cell_later hbw (hcell 1 _ rfl)
          have f2 : wr.cell? ⟨b, o + j * 4 + 2, none⟩ = some _ := cell_later hbw (hcell 2 _ rfl)
          have f3 : wr.cell? ⟨b, o + j * 4 + 3, none⟩ = some _ := cell_later hbw (hcell 3 _ rfl)
          have hC := HH.out _ e wr (PatR.lasts d _ _ _ _ hre hbw) (Nat.le_trans (szRow_mem he) HZ.out)
          have hlt' : (j : Int) < (len : Int) := by omega
          have HNX : Hid (ownSlot 3 N ++ (x.L.take (j + 1)).flatMap (slotsP d) = (ownSlot 3 N ++ (x.L.take j).flatMap (slotsP d)) ++ slotsP d e) := by
            show _ = _
            have hl := (List.getElem?_eq_some_iff.1 he).1
            rw [List.take_succ_eq_append_getElem hl, (List.getElem?_eq_some_iff.1 he).2, List.flatMap_append, List.append_assoc]
            simp
          have HBN := HB.out (j + 1)
          rw [HNX.out, List.length_append] at HBN
          clear hcell hre hvl hbx hrow hbw he
          go_wp2_with fail
          refine hC.mono ?_
          clear hC
          rintro r w2 ⟨g2, n2, c2, rfl, HR2, hb2⟩
          have HM2 : Hid (SMid w w2 _ _ _) := HM.out.later hb2
          obtain ⟨rfl, hcl2⟩ := HR2.out.cells
          have HCL : Hid (∀ (j : Nat) (u : Value), ((slotsP d e).map (Value.int .i64))[j]? = some u → w2.cell? ((⟨g2, 0, none⟩ : Addr).add j) = some u) := hcl2
          clear f0 f1 f2 f3 b3 HM hb2 hcl2 HR2
          go_wp2_with (first | (at_builtin; refine wpList_append_own_at _ rfl _ _ 36 rfl (w.heap.size + 1) 3 i0 (.int .i64 0) 1 8 Try.underlying36 hi hi0 hi1 hi2 rfl (by decide) _ _ _ rfl HM2.out.row ⟨g2, 0, none⟩ _ c2 ((slotsP d e).map (Value.int .i64)) rfl (by simp) HCL.out (by intro u hu; obtain ⟨q, _, rfl⟩ := List.mem_map.1 hu; rfl) (by unfold maxLen; omega) (by omega) (by have := lt_row HM2.out.1; omega) ?_; intro v' w3 hown3 hgrow3 hnil3 _; have HM3 : Hid (SMid w w3 _ _ v') := HM2.out.app hown3 hgrow3 hnil3; clear hown3 hgrow3 hnil3) | go_in)
          go_roundw
          case rel => exact ⟨j + 1, by omega, by go_num, by rw [HNX.out]; exact HM3⟩
          case measure => simp [intOf]; omega
        · obtain rfl : j = len := by omega
          have hlt' : ¬ (j : Int) < (j : Int) := by omega
          have HFN : Hid (IntRow wr w.heap.size (.slice (some ⟨g, 0, none⟩) gn gc) (slotsP (d + 1) x) ∧ Below w.heap.size w wr) := by
            refine ⟨?_, hbw⟩
            have e1 : x.L.take j = x.L := List.take_of_length_le (by rw [HLN.out]; exact Nat.le_refl _)
            rw [e1] at hrow
            rw [HV.out]
            refine ⟨hrow.1, ?_⟩
            rcases hrow.2 with h | ⟨g', c', cur, q1, q2, q3⟩
            · exact .inl h
            · exact .inr ⟨g', c', cur, q1, by omega, q3⟩
          clear hbx hrow HM HH
          go_wp2
          go_ret
          exact ⟨_, _, _, rfl, HFN.out.1, HFN.out.2⟩
    · have hon : Hid (ownSlot 3 N = [N]) := by show _ = _; unfold ownSlot; rw [if_pos ⟨rfl, hS⟩]
      have hne : (N != -1) = true := by simp [hS]
      clear hS
      go_enter Try.func12, Try.ntmps12
      go_wp2_with (first | (at_builtin; refine wpList_append_own_at _ rfl _ _ 36 rfl (w.heap.size + 1) 3 i0 (.int .i64 0) 1 8 Try.underlying36 hi hi0 hi1 hi2 rfl (by decide) _ _ _ rfl (HR0.out.row.alloc _) ⟨_, 0, none⟩ 1 1 ([N].map (Value.int .i64)) rfl rfl (new_one (.int .i64 N) 3 (by simp)) (by intro u hu; simp at hu; subst hu; rfl) (by unfold maxLen; simp) (by simp) (by simp <;> omega) ?_; intro v' w2 hown2 hgrow2 hnil2 _; have HM2 : Hid (SMid w w2 #[.int .i64 3, .int .i64 N, .string S, .slice a3 len c3] ([] ++ [N]) v') := (HR0.out.later ((Below.refl _ _).alloc (Nat.le_refl _) _)).app hown2 hgrow2 hnil2; clear hown2 hgrow2 hnil2) | go_in)
      go_loopw [3, 4] (fun v i wr => ∃ j : Nat, j ≤ len ∧ i = .int .i64 j ∧ Hid (SMid w wr #[.int .i64 3, .int .i64 N, .string S, .slice a3 len c3] (ownSlot 3 N ++ (x.L.take j).flatMap (slotsP d)) v)) (fun _ i _ => len - (intOf i).toNat)
      case atStart => exact ⟨0, Nat.zero_le _, rfl, by rw [hon.out]; exact HM2⟩
      case round =>
        obtain ⟨j, hj, rfl, HM⟩ := hrel
        clear HR0 HM2
        obtain ⟨hbx, hrow, hbw, g, gn, gc, rfl⟩ := HM.out
        have b3 : wr.cell? ⟨w.heap.size, 3, none⟩ = some (.slice a3 len c3) := by rw [cell_of_row wr _ 3 _ _ _ hbx]; rfl
        by_cases hlt : j < len
        · obtain ⟨e, he⟩ : ∃ e, x.L[j]? = some e := ⟨_, List.getElem?_eq_getElem (by rw [HLN.out]; exact hlt)⟩
          obtain ⟨b, o, vs, rfl, hvl, hcell, hre⟩ := HE.out j e he
          obtain ⟨y0, y1, y2, ya3, yl3, yc3, rfl⟩ := PatR.shape _ _ _ _ hre
          have f0 : wr.cell? ⟨b, o + j * 4, none⟩ = some _ := cell_later hbw (hcell 0 _ rfl)
          have f1 : wr.cell? ⟨b, o + j * 4 + 1, none⟩ = some _ := cell_later hbw (hcell 1 _ rfl)
          have f2 : wr.cell? ⟨b, o + j * 4 + 2, none⟩ = some _ := cell_later hbw (hcell 2 _ rfl)
          have f3 : wr.cell? ⟨b, o + j * 4 + 3, none⟩ = some _ := cell_later hbw (hcell 3 _ rfl)
          have hC := HH.out _ e wr (PatR.lasts d _ _ _ _ hre hbw) (Nat.le_trans (szRow_mem he) HZ.out)
          have hlt' : (j : Int) < (len : Int) := by omega
          have HNX : Hid (ownSlot 3 N ++ (x.L.take (j + 1)).flatMap (slotsP d) = (ownSlot 3 N ++ (x.L.take j).flatMap (slotsP d)) ++ slotsP d e) := by
            show _ = _
            have hl := (List.getElem?_eq_some_iff.1 he).1
            rw [List.take_succ_eq_append_getElem hl, (List.getElem?_eq_some_iff.1 he).2, List.flatMap_append, List.append_assoc]
            simp
          have HBN := HB.out (j + 1)
          rw [HNX.out, List.length_append] at HBN
          clear hcell hre hvl hbx hrow hbw he
          go_wp2_with fail
          refine hC.mono ?_
          clear hC
          rintro r w2 ⟨g2, n2, c2, rfl, HR2, hb2⟩
          have HM2 : Hid (SMid w w2 _ _ _) := HM.out.later hb2
          obtain ⟨rfl, hcl2⟩ := HR2.out.cells
          have HCL : Hid (∀ (j : Nat) (u : Value), ((slotsP d e).map (Value.int .i64))[j]? = some u → w2.cell? ((⟨g2, 0, none⟩ : Addr).add j) = some u) := hcl2
          clear f0 f1 f2 f3 b3 HM hb2 hcl2 HR2
          go_wp2_with (first | (at_builtin; refine wpList_append_own_at _ rfl _ _ 36 rfl (w.heap.size + 1) 3 i0 (.int .i64 0) 1 8 Try.underlying36 hi hi0 hi1 hi2 rfl (by decide) _ _ _ rfl HM2.out.row ⟨g2, 0, none⟩ _ c2 ((slotsP d e).map (Value.int .i64)) rfl (by simp) HCL.out (by intro u hu; obtain ⟨q, _, rfl⟩ := List.mem_map.1 hu; rfl) (by unfold maxLen; omega) (by omega) (by have := lt_row HM2.out.1; omega) ?_; intro v' w3 hown3 hgrow3 hnil3 _; have HM3 : Hid (SMid w w3 _ _ v') := HM2.out.app hown3 hgrow3 hnil3; clear hown3 hgrow3 hnil3) | go_in)
          go_roundw
          case rel => exact ⟨j + 1, by omega, by go_num, by rw [HNX.out]; exact HM3⟩
          case measure => simp [intOf]; omega
        · obtain rfl : j = len := by omega
          have hlt' : ¬ (j : Int) < (j : Int) := by omega
          have HFN : Hid (IntRow wr w.heap.size (.slice (some ⟨g, 0, none⟩) gn gc) (slotsP (d + 1) x) ∧ Below w.heap.size w wr) := by
            refine ⟨?_, hbw⟩
            have e1 : x.L.take j = x.L := List.take_of_length_le (by rw [HLN.out]; exact Nat.le_refl _)
            rw [e1] at hrow
            rw [HV.out]
            refine ⟨hrow.1, ?_⟩
            rcases hrow.2 with h | ⟨g', c', cur, q1, q2, q3⟩
            · exact .inl h
            · exact .inr ⟨g', c', cur, q1, by omega, q3⟩
          clear hbx hrow HM HH
          go_wp2
          go_ret
          exact ⟨_, _, _, rfl, HFN.out.1, HFN.out.2⟩
  · have hon : Hid (ownSlot K N = []) := by show _ = _; unfold ownSlot; rw [if_neg]; exact fun h => hk h.1
    go_enter Try.func12, Try.ntmps12
    go_wp2_with fail
    go_loopw [3, 4] (fun v i wr => ∃ j : Nat, j ≤ len ∧ i = .int .i64 j ∧ Hid (SMid w wr #[.int .i64 K, .int .i64 N, .string S, .slice a3 len c3] (ownSlot K N ++ (x.L.take j).flatMap (slotsP d)) v)) (fun _ i _ => len - (intOf i).toNat)
    case atStart => exact ⟨0, Nat.zero_le _, rfl, by rw [hon.out]; exact HR0⟩
    case round =>
      obtain ⟨j, hj, rfl, HM⟩ := hrel
      clear HR0
      obtain ⟨hbx, hrow, hbw, g, gn, gc, rfl⟩ := HM.out
      have b3 : wr.cell? ⟨w.heap.size, 3, none⟩ = some (.slice a3 len c3) := by rw [cell_of_row wr _ 3 _ _ _ hbx]; rfl
      by_cases hlt : j < len
      · obtain ⟨e, he⟩ : ∃ e, x.L[j]? = some e := ⟨_, List.getElem?_eq_getElem (by rw [HLN.out]; exact hlt)⟩
        obtain ⟨b, o, vs, rfl, hvl, hcell, hre⟩ := HE.out j e he
        obtain ⟨y0, y1, y2, ya3, yl3, yc3, rfl⟩ := PatR.shape _ _ _ _ hre
        have f0 : wr.cell? ⟨b, o + j * 4, none⟩ = some _ := cell_later hbw (hcell 0 _ rfl)
        have f1 : wr.cell? ⟨b, o + j * 4 + 1, none⟩ = some _ := cell_later hbw (hcell 1 _ rfl)
        have f2 : wr.cell? ⟨b, o + j * 4 + 2, none⟩ = some _ := cell_later hbw (hcell 2 _ rfl)
        have f3 : wr.cell? ⟨b, o + j * 4 + 3, none⟩ = some _ := cell_later hbw (hcell 3 _ rfl)
        have hC := HH.out _ e wr (PatR.lasts d _ _ _ _ hre hbw) (Nat.le_trans (szRow_mem he) HZ.out)
        have hlt' : (j : Int) < (len : Int) := by omega
        have HNX : Hid (ownSlot K N ++ (x.L.take (j + 1)).flatMap (slotsP d) = (ownSlot K N ++ (x.L.take j).flatMap (slotsP d)) ++ slotsP d e) := by
          show _ = _
          have hl := (List.getElem?_eq_some_iff.1 he).1
          rw [List.take_succ_eq_append_getElem hl, (List.getElem?_eq_some_iff.1 he).2, List.flatMap_append, List.append_assoc]
          simp
        have HBN := HB.out (j + 1)
        rw [HNX.out, List.length_append] at HBN
        clear hcell hre hvl hbx hrow hbw he
        go_wp2_with fail
        refine hC.mono ?_
        clear hC
        rintro r w2 ⟨g2, n2, c2, rfl, HR2, hb2⟩
        have HM2 : Hid (SMid w w2 _ _ _) := HM.out.later hb2
        obtain ⟨rfl, hcl2⟩ := HR2.out.cells
        have HCL : Hid (∀ (j : Nat) (u : Value), ((slotsP d e).map (Value.int .i64))[j]? = some u → w2.cell? ((⟨g2, 0, none⟩ : Addr).add j) = some u) := hcl2
        clear f0 f1 f2 f3 b3 HM hb2 hcl2 HR2
        go_wp2_with (first | (at_builtin; refine wpList_append_own_at _ rfl _ _ 36 rfl (w.heap.size + 1) 3 i0 (.int .i64 0) 1 8 Try.underlying36 hi hi0 hi1 hi2 rfl (by decide) _ _ _ rfl HM2.out.row ⟨g2, 0, none⟩ _ c2 ((slotsP d e).map (Value.int .i64)) rfl (by simp) HCL.out (by intro u hu; obtain ⟨q, _, rfl⟩ := List.mem_map.1 hu; rfl) (by unfold maxLen; omega) (by omega) (by have := lt_row HM2.out.1; omega) ?_; intro v' w3 hown3 hgrow3 hnil3 _; have HM3 : Hid (SMid w w3 _ _ v') := HM2.out.app hown3 hgrow3 hnil3; clear hown3 hgrow3 hnil3) | go_in)
        go_roundw
        case rel => exact ⟨j + 1, by omega, by go_num, by rw [HNX.out]; exact HM3⟩
        case measure => simp [intOf]; omega
      · obtain rfl : j = len := by omega
        have hlt' : ¬ (j : Int) < (j : Int) := by omega
        have HFN : Hid (IntRow wr w.heap.size (.slice (some ⟨g, 0, none⟩) gn gc) (slotsP (d + 1) x) ∧ Below w.heap.size w wr) := by
          refine ⟨?_, hbw⟩
          have e1 : x.L.take j = x.L := List.take_of_length_le (by rw [HLN.out]; exact Nat.le_refl _)
          rw [e1] at hrow
          rw [HV.out]
          refine ⟨hrow.1, ?_⟩
          rcases hrow.2 with h | ⟨g', c', cur, q1, q2, q3⟩
          · exact .inl h
          · exact .inr ⟨g', c', cur, q1, by omega, q3⟩
        clear hbx hrow HM HH
        go_wp2
        go_ret
        exact ⟨_, _, _, rfl, HFN.out.1, HFN.out.2⟩

theorem l9Slots_any : ∀ d, SlC d := by
  intro d
  induction d with
  | zero => intro vs e w h; exact h.elim
  | succ d ih => exact l9Slots_of d ih


end Go.Proofs.Ytfcdmmmihiojoaa
