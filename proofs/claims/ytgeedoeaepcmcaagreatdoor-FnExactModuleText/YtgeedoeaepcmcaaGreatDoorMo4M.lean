/- What is right of functions and modules: the model's and the program's tests. -/
import Derived.Test.YtgeedoeaepcmcaaGreatDoorMo3M
import Derived.Test.YtgeedoeaepcmcaaGreatDoorXmM
import Derived.Test.YtgeedoeaepcmcaaGreatDoorLp2M
namespace Go.Proofs.YtgeedoeaepcmcaaGreatDoor
open Go.RowKit
set_option linter.unusedVariables false

/-- As a parameter. -/
def ParP (s : ByteArray) : Prop := NameP s ∧ ¬ s.toList = [95]
/-- A function that has a text. -/
def FunP (d : Nat) (f : Fu d) : Prop := (AtomP f.nm ∧ ¬ Wrd f.nm) ∧ f.ps.length ≤ 4 ∧ (∀ p ∈ f.ps, ParP p) ∧ FineX d false 10 300 f.x
/-- A module that has one. -/
def ModP (d : Nat) (m : List (Fu d)) : Prop := m.length ≤ 12 ∧ ∀ f ∈ m, FunP d f

/-- Functions as they are read, with the room of their lists. -/
def FuC (d : Nat) (w : World) (vs : List Value) (f : Fu d) : Prop := ∃ vp vx, vs = .string f.nm :: vp :: vx ∧ (RowOf 1 StR w vp f.ps ∧ CapV vp) ∧ ExC d w vx f.x
theorem FuC.lasts (d : Nat) : Lasts (FuC d) := by
  rintro w w' vs f ⟨vp, vx, rfl, ⟨h1, k1⟩, h2⟩ hb
  exact ⟨vp, vx, rfl, ⟨h1.later StR.lasts hb, k1⟩, ExC.lasts d _ _ _ _ h2 hb⟩
theorem FuO.readc (d : Nat) : Reads (FuO d) (FuC d) := by
  rintro w vs f fp ⟨vp, vx, g, h, rfl, rfl, h1, h2⟩
  exact ⟨vp, vx, rfl, ⟨h1.rd StO.reads, h1.cap⟩, ExO.readc d _ _ _ _ h2⟩
theorem FuC.read (d : Nat) : ∀ w vs f, FuC d w vs f → FuR d w vs f := by
  rintro w vs f ⟨vp, vx, rfl, ⟨h1, _⟩, h2⟩
  exact ⟨vp, vx, rfl, h1, ExC.read d _ _ _ h2⟩
theorem FuC.shape (d : Nat) (w : World) (vs : List Value) (f : Fu d) (h : FuC d w vs f) : ShFun vs := FuR.shape d w vs f (FuC.read d w vs f h)

theorem par_take {l : List ByteArray} {k : Nat} {t : ByteArray} (ht : l[k]? = some t) (h : ∀ p ∈ l.take k, ParP p) (hp : ParP t) : ∀ p ∈ l.take (k + 1), ParP p := fun p hm => by
  rcases mem_take_succ ht hm with h1 | rfl
  · exact h p h1
  · exact hp

set_option maxRecDepth 100000 in
set_option maxHeartbeats 2000000 in
theorem l5FunOk_any (d : Nat) (vs : List Value) (f : Fu d) (w : World) (hr : FuC d w vs f) (hz : szF d f ≤ 1048576) :
    Calls Tryz.prog 20 #[.agg vs.toArray] w fun r w' => ∃ b : Bool, r = .returned (.bool b) ∧ Hid (b = true ↔ FunP d f) ∧ Below w.heap.size w w' := by
  obtain ⟨vp, vx, rfl, ⟨h1, _⟩, h2⟩ := hr
  have hz' : f.nm.size + szRow ByteArray.size f.ps + szX d f.x ≤ 1048576 := hz
  obtain ⟨a1, c1, rfl, hel⟩ := row_tell h1
  have hsP := sumP_all ByteArray.size f.ps
  have HE : Hid (∀ (i : Nat) (s : ByteArray), f.ps[i]? = some s → ∃ b o, a1 = some ⟨b, o, none⟩ ∧ w.cell? ⟨b, o + i, none⟩ = some (.string s)) := hel
  obtain ⟨i2, i3, s4, a5, l5, c5, a6, l6, c6, rfl⟩ := ExC.shape d _ _ _ h2
  have HX : Hid (ExC d w _ f.x) := h2
  have HFP : Hid (FunP d f ↔ (AtomP f.nm ∧ ¬ Wrd f.nm) ∧ f.ps.length ≤ 4 ∧ (∀ p ∈ f.ps, ParP p) ∧ FineX d false 10 300 f.x) := Iff.rfl
  have HZX : Hid (szX d f.x ≤ 1048576) := by show _ ≤ _; omega
  have HPZ : Hid (∀ (i : Nat) (s : ByteArray), f.ps[i]? = some s → s.size ≤ 9223372036854775807) := fun i s hs => by have := szRow_mem (f := ByteArray.size) hs; omega
  obtain ⟨FP, hFP⟩ : ∃ P, FunP d f = P := ⟨_, rfl⟩
  rw [hFP] at HFP
  rw [hFP]
  obtain ⟨PS, hPS⟩ : ∃ l, f.ps = l := ⟨_, rfl⟩
  obtain ⟨S, hS⟩ : ∃ S, f.nm = S := ⟨_, rfl⟩
  rw [hPS] at HE HFP HPZ hsP
  rw [hS] at HFP
  rw [hS, hPS]
  have hs0 : S.size ≤ 9223372036854775807 := by rw [hS] at hz'; omega
  have hl0 : PS.length ≤ 1048576 := by rw [hPS] at hz'; omega
  clear h1 h2 hel hz hz' hS hPS hFP hsP
  obtain ⟨len, hl⟩ : ∃ l, PS.length = l := ⟨_, rfl⟩
  have HL : Hid (PS.length = len) := hl
  rw [hl] at HFP hl0 ⊢
  clear hl
  obtain ⟨W, hW⟩ : ∃ W, W = w.alloc (.cells #[.string S, .slice a1 len c1, .int .i64 i2, .int .i64 i3, .string s4, .slice a5 l5 c5, .slice a6 l6 c6] 41) := ⟨_, rfl⟩
  have hA : Below w.heap.size w W := by rw [hW]; exact (Below.refl _ _).alloc (Nat.le_refl _) _
  have HB1 : Hid (W.heap[w.heap.size]? = some (.cells #[.string S, .slice a1 len c1, .int .i64 i2, .int .i64 i3, .string s4, .slice a5 l5 c5, .slice a6 l6 c6] 41 (0, 0))) := by rw [hW]; exact heap_alloc_new w _
  have HA : Hid (Below w.heap.size w W) := hA
  clear hA
  go_enter Tryz.func20, Tryz.ntmps20
  go_wp2_with fail
  rw [← hW]
  clear hW
  go_loopw [3] (fun i wr => ∃ k : Nat, k ≤ len ∧ i = .int .i64 k ∧ Hid (∀ p ∈ PS.take k, ParP p) ∧ Hid (Below W.heap.size W wr)) (fun i _ => len - (intOf i).toNat)
  case atStart => exact ⟨0, Nat.zero_le _, rfl, (fun p hp => by simp at hp), Below.refl _ _⟩
  case round =>
    obtain ⟨k, hk, rfl, HP, hb⟩ := hrel
    have hrow := (hb.out.block _ (lt_row HB1.out)).trans HB1.out
    have b1 : wr.cell? ⟨w.heap.size, 1, none⟩ = some (.slice a1 len c1) := by rw [cell_of_row wr _ 1 _ _ _ hrow]; rfl
    have hbw : Below w.heap.size w wr := HA.out.trans (hb.out.mono HA.out.size)
    by_cases hkl : k < len
    · obtain ⟨t, ht⟩ : ∃ t, PS[k]? = some t := ⟨_, List.getElem?_eq_getElem (by have := HL.out; omega)⟩
      obtain ⟨b, o, rfl, f0⟩ := HE.out k t ht
      have f1 := cell_later hbw f0
      have hkl' : (k : Int) < (len : Int) := by omega
      have hC := specVarOk_any t wr (HPZ.out k t ht)
      have HT : Hid (PS[k]? = some t) := ht
      clear f0 ht hrow
      go_wp2_with fail
      refine hC.mono ?_
      clear hC
      rintro e w' ⟨q, rfl, hq, rfl⟩
      cases q
      · have HN : Hid (¬ FP) := fun h => by
          have := ((HFP.out.1 h).2.2.1 t (List.mem_of_getElem? HT.out)).1
          have := hq.2 this
          cases this
        clear hq HP
        go_wp2_with fail
        go_ret
        exact ⟨false, rfl, iff_no HN.out, hbw⟩
      · have HNP : Hid (NameP t) := hq.1 rfl
        clear hq
        by_cases hu : t.toList = [95]
        · have HN : Hid (¬ FP) := fun h => ((HFP.out.1 h).2.2.1 t (List.mem_of_getElem? HT.out)).2 hu
          have hu2 : (t.toList == [95]) = true := by simp [hu]
          clear hu HP
          go_wp2_with fail
          go_ret
          exact ⟨false, rfl, iff_no HN.out, hbw⟩
        · have HNX : Hid (∀ p ∈ PS.take (k + 1), ParP p) := par_take HT.out HP.out ⟨HNP.out, hu⟩
          have hu2 : (t.toList == [95]) = false := by simpa using hu
          clear hu HP hbw
          go_wp2_with fail
          go_roundw
          case rel => exact ⟨k + 1, by omega, by go_num, HNX, hb⟩
          case measure => simp [intOf]; omega
    · obtain rfl : k = len := by omega
      have hkl' : decide ((k : Int) < (k : Int)) = false := by simp
      have HPA : Hid (∀ p ∈ PS, ParP p) := by
        have := HP.out
        rw [List.take_of_length_le (by have := HL.out; omega)] at this
        exact this
      have b0 : wr.cell? ⟨w.heap.size, 0, none⟩ = some (.string S) := by rw [cell_of_row wr _ 0 _ _ _ hrow]; rfl
      have hC := l4Atom_any S wr hs0
      have HRW : Hid (wr.heap[w.heap.size]? = _) := hrow
      clear HP hrow HE
      go_wp2_with fail
      refine hC.mono ?_
      clear hC b1 b0
      rintro e w1 ⟨q, rfl, HQ, hB⟩
      have hb1 : Below w.heap.size w w1 := hbw.trans (hB.mono hbw.size)
      have hrow := (hB.block _ (lt_row HRW.out)).trans HRW.out
      cases q
      · have HN : Hid (¬ FP) := fun h => by have := HQ.out.2 (HFP.out.1 h).1; cases this
        clear HQ hB hrow hbw
        go_wp2_with fail
        go_ret
        exact ⟨false, rfl, iff_no HN.out, hb1⟩
      · have HAT : Hid (AtomP S ∧ ¬ Wrd S) := HQ.out.1 rfl
        have b1 : w1.cell? ⟨w.heap.size, 1, none⟩ = some (.slice a1 k c1) := by rw [cell_of_row w1 _ 1 _ _ _ hrow]; rfl
        by_cases h4 : k ≤ 4
        · have h4' : decide ((k : Int) ≤ 4) = true := by simp; omega
          have f2 : w1.cell? ⟨w.heap.size, 2, none⟩ = some (.int .i64 i2) := by rw [cell_of_row w1 _ 2 _ _ _ hrow]; rfl
          have f3 : w1.cell? ⟨w.heap.size, 3, none⟩ = some (.int .i64 i3) := by rw [cell_of_row w1 _ 3 _ _ _ hrow]; rfl
          have f4 : w1.cell? ⟨w.heap.size, 4, none⟩ = some (.string s4) := by rw [cell_of_row w1 _ 4 _ _ _ hrow]; rfl
          have f5 : w1.cell? ⟨w.heap.size, 5, none⟩ = some (.slice a5 l5 c5) := by rw [cell_of_row w1 _ 5 _ _ _ hrow]; rfl
          have f6 : w1.cell? ⟨w.heap.size, 6, none⟩ = some (.slice a6 l6 c6) := by rw [cell_of_row w1 _ 6 _ _ _ hrow]; rfl
          have hC := specExprOk_any d _ f.x w1 (ExC.read d _ _ _ (ExC.lasts d _ _ _ _ HX.out hb1)) HZX.out
          have H4 : Hid (k ≤ 4) := h4
          clear HQ hB hrow hbw h4
          go_wp2_with fail
          refine hC.mono ?_
          clear hC b1 f2 f3 f4 f5 f6
          rintro e w2 ⟨q, rfl, HQ2, hB2⟩
          have hb2 : Below w.heap.size w w2 := hb1.trans (hB2.mono hb1.size)
          have HF : Hid (q = true ↔ FP) := ⟨fun h => HFP.out.2 ⟨HAT.out, H4.out, HPA.out, HQ2.out.1 h⟩, fun h => HQ2.out.2 (HFP.out.1 h).2.2.2⟩
          clear HQ2 hB2 hb1 HAT HPA H4
          go_wp2_with fail
          go_ret
          exact ⟨q, rfl, HF, hb2⟩
        · have h4' : decide ((k : Int) ≤ 4) = false := by simp; omega
          have HN : Hid (¬ FP) := fun h => h4 (HFP.out.1 h).2.1
          clear HQ hB hrow hbw h4
          go_wp2_with fail
          go_ret
          exact ⟨false, rfl, iff_no HN.out, hb1⟩

theorem fun_take {d : Nat} {m : List (Fu d)} {k : Nat} {t : Fu d} (ht : m[k]? = some t) (h : ∀ p ∈ m.take k, FunP d p) (hp : FunP d t) : ∀ p ∈ m.take (k + 1), FunP d p := fun p hm => by
  rcases mem_take_succ ht hm with h1 | rfl
  · exact h p h1
  · exact hp

set_option maxHeartbeats 2000000 in
theorem l5ModuleOk_any (d : Nat) (v : Value) (m : List (Fu d)) (w : World) (hr : RowOf 7 (FuC d) w v m) (hz : szM d m ≤ 1048576) :
    Calls Tryz.prog 10 #[.agg #[v]] w fun r w' => ∃ b : Bool, r = .returned (.bool b) ∧ Hid (b = true ↔ ModP d m) ∧ Below w.heap.size w w' := by
  obtain ⟨a, c, rfl, hel⟩ := hr
  have hsM := sumP_all (szF d) m
  have hz' : szRow (szF d) m ≤ 1048576 := hz
  have HE : Hid (∀ (i : Nat) (x : Fu d), m[i]? = some x → ∃ b o vs, a = some ⟨b, o, none⟩ ∧ vs.length = 7 ∧ (∀ (j : Nat) (u : Value), vs[j]? = some u → w.cell? ⟨b, o + i * 7 + j, none⟩ = some u) ∧ FuC d w vs x) := hel
  have HZ : Hid (szRow (szF d) m ≤ 1048576) := hz'
  obtain ⟨len, hl⟩ : ∃ l, m.length = l := ⟨_, rfl⟩
  have HL : Hid (m.length = len) := hl
  have hl0 : len ≤ 1048576 := by omega
  rw [hl]
  clear hl hel hz hz' hsM
  obtain ⟨W, hW⟩ : ∃ W, W = w.alloc (.cells #[.slice a len c] 29) := ⟨_, rfl⟩
  have HA : Hid (Below w.heap.size w W) := by rw [hW]; exact (Below.refl _ _).alloc (Nat.le_refl _) _
  have HB1 : Hid (W.heap[w.heap.size]? = some (.cells #[.slice a len c] 29 (0, 0))) := by rw [hW]; exact heap_alloc_new w _
  go_enter Tryz.func10, Tryz.ntmps10
  go_wp2_with fail
  rw [← hW]
  clear hW
  go_loopw [3] (fun i wr => ∃ k : Nat, k ≤ len ∧ i = .int .i64 k ∧ Hid (∀ p ∈ m.take k, FunP d p) ∧ Hid (Below W.heap.size W wr)) (fun i _ => len - (intOf i).toNat)
  case atStart => exact ⟨0, Nat.zero_le _, rfl, (fun p hp => by simp at hp), Below.refl _ _⟩
  case round =>
    obtain ⟨k, hk, rfl, HP, hb⟩ := hrel
    have hrow := (hb.out.block _ (lt_row HB1.out)).trans HB1.out
    have b0 : wr.cell? ⟨w.heap.size, 0, none⟩ = some (.slice a len c) := by rw [cell_of_row wr _ 0 _ _ _ hrow]; rfl
    have hbw : Below w.heap.size w wr := HA.out.trans (hb.out.mono HA.out.size)
    clear hrow
    by_cases hkl : k < len
    · obtain ⟨t, ht⟩ : ∃ t, m[k]? = some t := ⟨_, List.getElem?_eq_getElem (by have := HL.out; omega)⟩
      obtain ⟨b, o, vs, rfl, hvl, hcell, hre⟩ := HE.out k t ht
      obtain ⟨s0, q1, n1, k1, i2, i3, s4, a5, l5, c5, a6, l6, c6, rfl⟩ := FuC.shape d _ _ _ hre
      have f0 : wr.cell? ⟨b, o + k * 7, none⟩ = some _ := cell_later hbw (hcell 0 _ rfl)
      have f1 : wr.cell? ⟨b, o + k * 7 + 1, none⟩ = some _ := cell_later hbw (hcell 1 _ rfl)
      have f2 : wr.cell? ⟨b, o + k * 7 + 2, none⟩ = some _ := cell_later hbw (hcell 2 _ rfl)
      have f3 : wr.cell? ⟨b, o + k * 7 + 3, none⟩ = some _ := cell_later hbw (hcell 3 _ rfl)
      have f4 : wr.cell? ⟨b, o + k * 7 + 4, none⟩ = some _ := cell_later hbw (hcell 4 _ rfl)
      have f5 : wr.cell? ⟨b, o + k * 7 + 5, none⟩ = some _ := cell_later hbw (hcell 5 _ rfl)
      have f6 : wr.cell? ⟨b, o + k * 7 + 6, none⟩ = some _ := cell_later hbw (hcell 6 _ rfl)
      have hC := l5FunOk_any d _ t wr (FuC.lasts d _ _ _ _ hre hbw) (Nat.le_trans (szRow_mem ht) HZ.out)
      have HT : Hid (m[k]? = some t) := ht
      have hkl' : (k : Int) < (len : Int) := by omega
      clear hcell hre hvl ht
      go_wp2_with fail
      refine hC.mono ?_
      clear hC f0 f1 f2 f3 f4 f5 f6 b0
      rintro e w1 ⟨q, rfl, HQ, hB⟩
      have hb1 : Hid (Below W.heap.size W w1) := hb.out.trans (hB.mono hb.out.size)
      have hbw1 : Below w.heap.size w w1 := hbw.trans (hB.mono hbw.size)
      clear hB hb hbw
      cases q
      · have HN : Hid (¬ ModP d m) := fun h => by have := HQ.out.2 (h.2 t (List.mem_of_getElem? HT.out)); cases this
        clear HQ HP
        go_wp2_with fail
        go_ret
        exact ⟨false, rfl, iff_no HN.out, hbw1⟩
      · have HNX : Hid (∀ p ∈ m.take (k + 1), FunP d p) := fun_take HT.out HP.out (HQ.out.1 rfl)
        clear HQ HP hbw1
        go_wp2_with fail
        go_roundw
        case rel => exact ⟨k + 1, by omega, by go_num, HNX, hb1⟩
        case measure => simp [intOf]; omega
    · obtain rfl : k = len := by omega
      have hkl' : decide ((k : Int) < (k : Int)) = false := by simp
      have HF : Hid (decide ((k : Int) ≤ 12) = true ↔ ModP d m) := by
        have h1 := HP.out
        rw [List.take_of_length_le (by have := HL.out; omega)] at h1
        have h2 := HL.out
        show _ ↔ _
        simp only [decide_eq_true_eq]
        exact ⟨fun h => ⟨by omega, h1⟩, fun h => by have := h.1; omega⟩
      clear HP HE
      go_wp2_with fail
      go_ret
      exact ⟨_, rfl, HF, hbw⟩

end Go.Proofs.YtgeedoeaepcmcaaGreatDoor

/- What is right of functions and modules: the program's tests. -/
namespace Go.Proofs.YtgeedoeaepcmcaaGreatDoor
open Go.RowKit
set_option linter.unusedVariables false

set_option maxRecDepth 100000 in
set_option maxHeartbeats 2000000 in
theorem funFits_any (d : Nat) (vs : List Value) (f : Fu d) (fp : List Nat) (w : World) (hown : FuO d w vs f fp) (hnd : fp.Nodup) (hlt : ∀ g ∈ fp, g < w.heap.size) (hz : szF d f ≤ 1048576) :
    Calls Tryz.prog 24 #[.agg vs.toArray] w fun r w' => ∃ b : Bool, r = .returned (.bool b) ∧ Hid (b = true ↔ FunP d f) ∧ Below w.heap.size w w' := by
  obtain ⟨vp, vx, g1, g2, rfl, rfl, h1, h2⟩ := hown
  have hz' : f.nm.size + szRow ByteArray.size f.ps + szX d f.x ≤ 1048576 := hz
  obtain ⟨a1, c1, rfl, hel⟩ := row_tell (h1.rd StO.reads)
  have hsP := sumP_all ByteArray.size f.ps
  have HE : Hid (∀ (i : Nat) (s : ByteArray), f.ps[i]? = some s → ∃ b o, a1 = some ⟨b, o, none⟩ ∧ w.cell? ⟨b, o + i, none⟩ = some (.string s)) := hel
  obtain ⟨i2, i3, s4, a5, l5, c5, a6, l6, c6, rfl⟩ := ExO.shape d _ _ _ _ h2
  have HX : Hid (∀ V : World, Below w.heap.size w V → Calls Tryz.prog 40 #[.agg #[.int .i64 i2, .int .i64 i3, .string s4, .slice a5 l5 c5, .slice a6 l6 c6]] V fun e w' => ∃ b : Bool, e = .returned (.bool b) ∧ Hid (b = true ↔ FineX d false 10 300 f.x) ∧ Below V.heap.size V w') := fun V hV =>
    exprOk_any d _ f.x g2 V (ExO.lasts d _ _ _ _ _ h2 fun g hg => hV.block g (hlt g (List.mem_append_right _ hg))) (List.nodup_append.1 hnd).2.1 (fun g hg => Nat.lt_of_lt_of_le (hlt g (List.mem_append_right _ hg)) hV.size) (by omega)
  have HFP : Hid (FunP d f ↔ (AtomP f.nm ∧ ¬ Wrd f.nm) ∧ f.ps.length ≤ 4 ∧ (∀ p ∈ f.ps, ParP p) ∧ FineX d false 10 300 f.x) := Iff.rfl
  have HPZ : Hid (∀ (i : Nat) (s : ByteArray), f.ps[i]? = some s → s.size ≤ 9223372036854775807) := fun i s hs => by have := szRow_mem (f := ByteArray.size) hs; omega
  obtain ⟨FP, hFP⟩ : ∃ P, FunP d f = P := ⟨_, rfl⟩
  rw [hFP] at HFP
  rw [hFP]
  obtain ⟨PS, hPS⟩ : ∃ l, f.ps = l := ⟨_, rfl⟩
  obtain ⟨S, hS⟩ : ∃ S, f.nm = S := ⟨_, rfl⟩
  rw [hPS] at HE HFP HPZ hsP
  rw [hS] at HFP
  rw [hS, hPS]
  have hs0 : S.size ≤ 9223372036854775807 := by rw [hS] at hz'; omega
  have hl0 : PS.length ≤ 1048576 := by rw [hPS] at hz'; omega
  clear h1 h2 hel hz hz' hS hPS hFP hsP hnd hlt
  obtain ⟨len, hl⟩ : ∃ l, PS.length = l := ⟨_, rfl⟩
  have HL : Hid (PS.length = len) := hl
  rw [hl] at HFP hl0 ⊢
  clear hl
  obtain ⟨W, hW⟩ : ∃ W, W = w.alloc (.cells #[.string S, .slice a1 len c1, .int .i64 i2, .int .i64 i3, .string s4, .slice a5 l5 c5, .slice a6 l6 c6] 41) := ⟨_, rfl⟩
  have HA : Hid (Below w.heap.size w W) := by rw [hW]; exact (Below.refl _ _).alloc (Nat.le_refl _) _
  have hB1 : W.heap[w.heap.size]? = some (.cells #[.string S, .slice a1 len c1, .int .i64 i2, .int .i64 i3, .string s4, .slice a5 l5 c5, .slice a6 l6 c6] 41 (0, 0)) := by rw [hW]; exact heap_alloc_new w _
  have hC := exprAtomOk_any S W hs0
  have b1 : W.cell? ⟨w.heap.size, 1, none⟩ = some (.slice a1 len c1) := by rw [cell_of_row W _ 1 _ _ _ hB1]; rfl
  have HB1 : Hid (W.heap[w.heap.size]? = _) := hB1
  have HW : Hid (W = _) := hW
  rw [hW] at hC
  clear hB1 hW
  go_enter Tryz.func24, Tryz.ntmps24
  go_wp2_with fail
  refine hC.mono ?_
  clear hC
  rintro e w1 ⟨q, rfl, hq, hw1⟩
  obtain rfl : W = w1 := by rw [HW.out]; exact hw1
  clear hw1 HW
  cases q
  · have HN : Hid (¬ FP) := fun h => by have := hq.2 (HFP.out.1 h).1; cases this
    have hbw := HA.out
    clear hq
    go_wp2_with fail
    go_ret
    exact ⟨false, rfl, iff_no HN.out, hbw⟩
  have HAT : Hid (AtomP S ∧ ¬ Wrd S) := hq.1 rfl
  clear hq
  by_cases h4 : 4 < len
  · have HN : Hid (¬ FP) := fun h => by have := (HFP.out.1 h).2.1; omega
    have h4' : decide ((4 : Int) < (len : Int)) = true := by simp; omega
    have hbw := HA.out
    clear h4
    go_wp2_with fail
    go_ret
    exact ⟨false, rfl, iff_no HN.out, hbw⟩
  have H4 : Hid (len ≤ 4) := by show _ ≤ _; omega
  have h4' : decide ((4 : Int) < (len : Int)) = false := by simp; omega
  clear h4
  go_wp2_with fail
  clear b1 h4'
  go_loopw [18] (fun i wr => ∃ k : Nat, k ≤ len ∧ i = .int .i64 k ∧ Hid (∀ p ∈ PS.take k, ParP p) ∧ Hid (Below W.heap.size W wr)) (fun i _ => len - (intOf i).toNat)
  case atStart => exact ⟨0, Nat.zero_le _, rfl, (fun p hp => by simp at hp), Below.refl _ _⟩
  case round =>
    obtain ⟨k, hk, rfl, HP, hb⟩ := hrel
    have hbw : Below w.heap.size w wr := HA.out.trans (hb.out.mono HA.out.size)
    by_cases hkl : k < len
    · obtain ⟨t, ht⟩ : ∃ t, PS[k]? = some t := ⟨_, List.getElem?_eq_getElem (by have := HL.out; omega)⟩
      obtain ⟨b, o, rfl, f0⟩ := HE.out k t ht
      have f1 := cell_later hbw f0
      have hkl' : (k : Int) < (len : Int) := by omega
      have hC := nameOk_any t wr (HPZ.out k t ht)
      have HT : Hid (PS[k]? = some t) := ht
      clear f0 ht
      go_wp2_with fail
      refine hC.mono ?_
      clear hC
      rintro e w' ⟨q, rfl, hq, rfl⟩
      cases q
      · have HN : Hid (¬ FP) := fun h => by
          have := ((HFP.out.1 h).2.2.1 t (List.mem_of_getElem? HT.out)).1
          have := hq.2 this
          cases this
        clear hq HP
        go_wp2_with fail
        go_ret
        exact ⟨false, rfl, iff_no HN.out, hbw⟩
      · have HNP : Hid (NameP t) := hq.1 rfl
        clear hq
        by_cases hu : t.toList = [95]
        · have HN : Hid (¬ FP) := fun h => ((HFP.out.1 h).2.2.1 t (List.mem_of_getElem? HT.out)).2 hu
          have hu2 : (t.toList == [95]) = true := by simp [hu]
          clear hu HP
          go_wp2_with fail
          go_ret
          exact ⟨false, rfl, iff_no HN.out, hbw⟩
        · have HNX : Hid (∀ p ∈ PS.take (k + 1), ParP p) := par_take HT.out HP.out ⟨HNP.out, hu⟩
          have hu2 : (t.toList == [95]) = false := by simpa using hu
          clear hu HP hbw
          go_wp2_with fail
          go_roundw
          case rel => exact ⟨k + 1, by omega, by go_num, HNX, hb⟩
          case measure => simp [intOf]; omega
    · obtain rfl : k = len := by omega
      have hkl' : decide ((k : Int) < (k : Int)) = false := by simp
      have HPA : Hid (∀ p ∈ PS, ParP p) := by
        have := HP.out
        rw [List.take_of_length_le (by have := HL.out; omega)] at this
        exact this
      have hrow := (hb.out.block _ (lt_row HB1.out)).trans HB1.out
      have f2 : wr.cell? ⟨w.heap.size, 2, none⟩ = some (.int .i64 i2) := by rw [cell_of_row wr _ 2 _ _ _ hrow]; rfl
      have f3 : wr.cell? ⟨w.heap.size, 3, none⟩ = some (.int .i64 i3) := by rw [cell_of_row wr _ 3 _ _ _ hrow]; rfl
      have f4 : wr.cell? ⟨w.heap.size, 4, none⟩ = some (.string s4) := by rw [cell_of_row wr _ 4 _ _ _ hrow]; rfl
      have f5 : wr.cell? ⟨w.heap.size, 5, none⟩ = some (.slice a5 l5 c5) := by rw [cell_of_row wr _ 5 _ _ _ hrow]; rfl
      have f6 : wr.cell? ⟨w.heap.size, 6, none⟩ = some (.slice a6 l6 c6) := by rw [cell_of_row wr _ 6 _ _ _ hrow]; rfl
      have hC := HX.out wr hbw
      clear HP hrow HE HX
      go_wp2_with fail
      refine hC.mono ?_
      clear hC f2 f3 f4 f5 f6
      rintro e w2 ⟨q, rfl, HQ2, hB2⟩
      have hb2 : Below w.heap.size w w2 := hbw.trans (hB2.mono hbw.size)
      have HF : Hid (q = true ↔ FP) := ⟨fun h => HFP.out.2 ⟨HAT.out, H4.out, HPA.out, HQ2.out.1 h⟩, fun h => HQ2.out.2 (HFP.out.1 h).2.2.2⟩
      clear HQ2 hB2 hbw HAT HPA H4
      go_wp2_with fail
      go_ret
      exact ⟨q, rfl, HF, hb2⟩

set_option maxHeartbeats 2000000 in
theorem moduleFits_any (d : Nat) (v : Value) (m : List (Fu d)) (fp : List Nat) (w : World) (hown : OwnRow 7 41 (FuO d) w v m fp) (hnd : fp.Nodup) (hlt : ∀ g ∈ fp, g < w.heap.size) (hz : szM d m ≤ 1048576) :
    Calls Tryz.prog 13 #[.agg #[v]] w fun r w' => ∃ b : Bool, r = .returned (.bool b) ∧ Hid (b = true ↔ ModP d m) ∧ Below w.heap.size w w' := by
  obtain ⟨a, c, rfl⟩ := ownrow_len hown
  have hsM := sumP_all (szF d) m
  have hz' : szRow (szF d) m ≤ 1048576 := hz
  have HE : Hid (∀ (i : Nat) (x : Fu d), m[i]? = some x → ∃ b o vs f, a = some ⟨b, o, none⟩ ∧ vs.length = 7 ∧ (∀ (j : Nat) (u : Value), vs[j]? = some u → w.cell? ⟨b, o + i * 7 + j, none⟩ = some u) ∧ FuO d w vs x f ∧ f.Nodup ∧ ∀ g ∈ f, g < w.heap.size) := fun i e he => by
    obtain ⟨b, o, vs, f, q1, q2, q3, q4, q5⟩ := ownrow_elem hown he
    exact ⟨b, o, vs, f, q1, q2, q3, q4, hnd.sublist q5, fun g hg => hlt g (q5.subset hg)⟩
  have HZ : Hid (szRow (szF d) m ≤ 1048576) := hz'
  obtain ⟨len, hl⟩ : ∃ l, m.length = l := ⟨_, rfl⟩
  have HL : Hid (m.length = len) := hl
  have hl0 : len ≤ 1048576 := by omega
  rw [hl]
  clear hl hown hz hz' hsM hnd hlt
  obtain ⟨W, hW⟩ : ∃ W, W = w.alloc (.cells #[.slice a len c] 29) := ⟨_, rfl⟩
  have HA : Hid (Below w.heap.size w W) := by rw [hW]; exact (Below.refl _ _).alloc (Nat.le_refl _) _
  by_cases h12 : 12 < len
  · have HN : Hid (¬ ModP d m) := fun h => by have := h.1; have := HL.out; omega
    have h12' : decide ((12 : Int) < (len : Int)) = true := by simp; omega
    have hbw := HA.out
    rw [hW] at hbw
    clear h12
    go_enter Tryz.func13, Tryz.ntmps13
    go_wp2_with fail
    go_ret
    exact ⟨false, rfl, iff_no HN.out, hbw⟩
  have H12 : Hid (len ≤ 12) := by show _ ≤ _; omega
  have h12' : decide ((12 : Int) < (len : Int)) = false := by simp; omega
  clear h12
  go_enter Tryz.func13, Tryz.ntmps13
  go_wp2_with fail
  rw [← hW]
  clear hW h12'
  go_loopw [12] (fun i wr => ∃ k : Nat, k ≤ len ∧ i = .int .i64 k ∧ Hid (∀ p ∈ m.take k, FunP d p) ∧ Hid (Below W.heap.size W wr)) (fun i _ => len - (intOf i).toNat)
  case atStart => exact ⟨0, Nat.zero_le _, rfl, (fun p hp => by simp at hp), Below.refl _ _⟩
  case round =>
    obtain ⟨k, hk, rfl, HP, hb⟩ := hrel
    have hbw : Below w.heap.size w wr := HA.out.trans (hb.out.mono HA.out.size)
    by_cases hkl : k < len
    · obtain ⟨t, ht⟩ : ∃ t, m[k]? = some t := ⟨_, List.getElem?_eq_getElem (by have := HL.out; omega)⟩
      obtain ⟨b, o, vs, fs, rfl, hvl, hcell, hre, hfn, hfl⟩ := HE.out k t ht
      obtain ⟨s0, q1, n1, k1, i2, i3, s4, a5, l5, c5, a6, l6, c6, rfl⟩ := FuO.shape d _ _ _ _ hre
      have f0 : wr.cell? ⟨b, o + k * 7, none⟩ = some _ := cell_later hbw (hcell 0 _ rfl)
      have f1 : wr.cell? ⟨b, o + k * 7 + 1, none⟩ = some _ := cell_later hbw (hcell 1 _ rfl)
      have f2 : wr.cell? ⟨b, o + k * 7 + 2, none⟩ = some _ := cell_later hbw (hcell 2 _ rfl)
      have f3 : wr.cell? ⟨b, o + k * 7 + 3, none⟩ = some _ := cell_later hbw (hcell 3 _ rfl)
      have f4 : wr.cell? ⟨b, o + k * 7 + 4, none⟩ = some _ := cell_later hbw (hcell 4 _ rfl)
      have f5 : wr.cell? ⟨b, o + k * 7 + 5, none⟩ = some _ := cell_later hbw (hcell 5 _ rfl)
      have f6 : wr.cell? ⟨b, o + k * 7 + 6, none⟩ = some _ := cell_later hbw (hcell 6 _ rfl)
      have hC : ∀ X, Below wr.heap.size wr X → Calls Tryz.prog 24 #[.agg #[.string s0, .slice q1 n1 k1, .int .i64 i2, .int .i64 i3, .string s4, .slice a5 l5 c5, .slice a6 l6 c6]] X fun r w' => ∃ b : Bool, r = .returned (.bool b) ∧ Hid (b = true ↔ FunP d t) ∧ Below X.heap.size X w' := fun X hX => by
        have hbX : Below w.heap.size w X := hbw.trans (hX.mono hbw.size)
        exact funFits_any d _ t fs X (FuO.lasts d _ _ _ _ _ hre fun g hg => hbX.block g (hfl g hg)) hfn (fun g hg => Nat.lt_of_lt_of_le (hfl g hg) hbX.size) (Nat.le_trans (szRow_mem ht) HZ.out)
      have HT : Hid (m[k]? = some t) := ht
      have hkl' : (k : Int) < (len : Int) := by omega
      have hal : ∀ o1, Below wr.heap.size wr (wr.alloc o1) := fun o1 => (Below.refl _ _).alloc (Nat.le_refl _) _
      clear hcell hre hvl ht hfn hfl
      go_wp2_with fail
      refine (hC _ (hal _)).mono ?_
      clear hC f0 f1 f2 f3 f4 f5 f6
      rintro e w1 ⟨q, rfl, HQ, hB⟩
      have hbr : Below wr.heap.size wr w1 := (hal _).trans (hB.mono (hal _).size)
      have hb1 : Hid (Below W.heap.size W w1) := hb.out.trans (hbr.mono hb.out.size)
      have hbw1 : Below w.heap.size w w1 := hbw.trans (hbr.mono hbw.size)
      clear hB hb hbw hbr hal
      cases q
      · have HN : Hid (¬ ModP d m) := fun h => by have := HQ.out.2 (h.2 t (List.mem_of_getElem? HT.out)); cases this
        clear HQ HP
        go_wp2_with fail
        go_ret
        exact ⟨false, rfl, iff_no HN.out, hbw1⟩
      · have HNX : Hid (∀ p ∈ m.take (k + 1), FunP d p) := fun_take HT.out HP.out (HQ.out.1 rfl)
        clear HQ HP hbw1
        go_wp2_with fail
        go_roundw
        case rel => exact ⟨k + 1, by omega, by go_num, HNX, hb1⟩
        case measure => simp [intOf]; omega
    · obtain rfl : k = len := by omega
      have hkl' : decide ((k : Int) < (k : Int)) = false := by simp
      have HF : Hid (ModP d m) := by
        have h1 := HP.out
        rw [List.take_of_length_le (by have := HL.out; omega)] at h1
        exact ⟨by have := HL.out; have := H12.out; omega, h1⟩
      clear HP HE
      go_wp2_with fail
      go_ret
      exact ⟨true, rfl, iff_yes HF.out, hbw⟩

end Go.Proofs.YtgeedoeaepcmcaaGreatDoor
