/- The bytes of code: the model's. -/
import Derived.Test.YtfachfimdenapaaDoorPc0M
import Derived.Test.YtfachfimdenapaaDoorCs3M
import Derived.Test.YtfachfimdenapaaDoorSp9aM
namespace Go.Proofs.YtfachfimdenapaaDoor
open Go.RowKit
set_option linter.unusedVariables false

def FitAll (d : Nat) (c : DCode d) : Prop := ∀ (i : Nat) (t : Tm d), c.Pats[i]? = some t → pPatFits d t 400
def CanP (d : Nat) (c : DCode d) : Prop := pCodeOk d c ∧ FitAll d c
/-- The bytes that code is put to. -/
def PcX (d : Nat) (c : DCode d) (xs : List Int) : Prop := (CanP d c ∧ xs = encC c) ∨ (¬ CanP d c ∧ xs = [])
theorem PcX.same {d : Nat} {c : DCode d} {xs ys : List Int} (h : PcX d c xs) (k : PcX d c ys) : xs = ys := by
  rcases h with ⟨h1, h2⟩ | ⟨h1, h2⟩ <;> rcases k with ⟨k1, k2⟩ | ⟨k1, k2⟩
  · rw [h2, k2]
  · exact absurd h1 k1
  · exact absurd k1 h1
  · rw [h2, k2]

theorem br_empty {B g : Nat} {w : World} (h : w.heap[g]? = some (.cells #[] 5 (0, 0))) (hB : B ≤ g) : BR B w (.slice (some ⟨g, 0, none⟩) 0 0) [] :=
  ⟨g, 0, rfl, rfl, .inr ⟨g, 0, #[], rfl, hB, h, Nat.le_refl _, by decide, rfl, rfl⟩⟩

set_option maxRecDepth 100000 in
set_option maxHeartbeats 4000000 in
theorem specPats_any (d : Nat) (vs : List Value) (c : DCode d) (w : World) (hc : CodeR d w vs c) (hwc : WfCode d c) (hz : szCodeD d c ≤ 1048576) :
    Calls Tryd.prog 16 #[.agg vs.toArray] w fun e w' => BRes (FitAll d c) w e w' := by
  obtain ⟨v0, v1, rfl, _, h1⟩ := hc
  obtain ⟨a3, c3, rfl, hel⟩ := h1
  obtain ⟨a0, l0, c0, rfl⟩ := (by assumption : RowOf 4 FnR w v0 c.Fns).sl
  have hz' : szRow szFnD c.Fns + szRow (szPatD d) c.Pats ≤ 1048576 := hz
  have e1 : c.Pats.length ≤ szRow (szPatD d) c.Pats := Nat.le_add_right _ _
  have HE : Hid (∀ (i : Nat) (e : Tm d), c.Pats[i]? = some e → ∃ b o vs, a3 = some ⟨b, o, none⟩ ∧ vs.length = 4 ∧ (∀ (j : Nat) (u : Value), vs[j]? = some u → w.cell? ⟨b, o + i * 4 + j, none⟩ = some u) ∧ PatR d w vs e) := hel
  have HWP : Hid ((∀ x ∈ c.Pats, WfPat d x) ∧ szRow (szPatD d) c.Pats ≤ 1048576) := ⟨hwc.2.2, by omega⟩
  have HFA : Hid ((∀ (i : Nat) (t : Tm d), c.Pats[i]? = some t → pPatFits d t 400) → FitAll d c) := fun h => h
  have HFN : Hid (∀ (i : Nat) (t : Tm d), c.Pats[i]? = some t → ¬ pPatFits d t 400 → ¬ FitAll d c) := fun i t h1 h2 h3 => h2 (h3 i t h1)
  obtain ⟨PF, hPF⟩ : ∃ P : Prop, FitAll d c = P := ⟨_, rfl⟩
  rw [hPF] at HFA HFN ⊢
  obtain ⟨len, hl⟩ : ∃ l, c.Pats.length = l := ⟨_, rfl⟩
  have HL : Hid (c.Pats.length = len) := hl
  rw [hl] at e1 ⊢
  have hlen : len ≤ 1048576 := by omega
  clear hel hz hz' hwc hPF hl e1
  obtain ⟨W, hW⟩ : ∃ W, W = w.alloc (.cells #[.slice a0 l0 c0, .slice a3 len c3] 32) := ⟨_, rfl⟩
  have HBW : Hid (Below w.heap.size w W) := by rw [hW]; exact (Below.refl _ _).alloc (Nat.le_refl _) _
  have HB1 : Hid (W.heap[w.heap.size]? = some (.cells #[.slice a0 l0 c0, .slice a3 len c3] 32 (0, 0))) := by rw [hW]; exact heap_alloc_new w _
  have HWS : Hid (W = _) := hW
  clear hW
  go_enter Tryd.func16, Tryd.ntmps16
  go_wp2_with fail
  rw [← HWS.out]
  clear HWS
  go_loopw [3] (fun i wr => ∃ j : Nat, j ≤ len ∧ i = .int .i64 j ∧ Hid (Below W.heap.size W wr) ∧ Hid (∀ (i : Nat) (t : Tm d), i < j → c.Pats[i]? = some t → pPatFits d t 400)) (fun i _ => len - (intOf i).toNat)
  case atStart => exact ⟨0, Nat.zero_le _, rfl, Below.refl _ _, fun i t h => absurd h (Nat.not_lt_zero _)⟩
  case round =>
    obtain ⟨j, hj, rfl, HBj, HS⟩ := hrel
    have hr := (HBj.out.block _ (lt_row HB1.out)).trans HB1.out
    have x1 : wr.cell? ⟨w.heap.size, 1, none⟩ = some (.slice a3 len c3) := by rw [cell_of_row wr _ 1 _ _ _ hr]; rfl
    clear hr
    by_cases hjl : j < len
    · obtain ⟨u, hu⟩ : ∃ u, c.Pats[j]? = some u := ⟨_, List.getElem?_eq_getElem (by have := HL.out; omega)⟩
      obtain ⟨b, o, vs, rfl, hvl, hcell, hre⟩ := HE.out j u hu
      obtain ⟨y0, y1, y2, ya3, yl3, yc3, rfl⟩ := PatR.shape _ _ _ _ hre
      have hbw := HBW.out.trans (HBj.out.mono HBW.out.size)
      have f0 : wr.cell? ⟨b, o + j * 4, none⟩ = some _ := cell_later hbw (hcell 0 _ rfl)
      have f1 : wr.cell? ⟨b, o + j * 4 + 1, none⟩ = some _ := cell_later hbw (hcell 1 _ rfl)
      have f2 : wr.cell? ⟨b, o + j * 4 + 2, none⟩ = some _ := cell_later hbw (hcell 2 _ rfl)
      have f3 : wr.cell? ⟨b, o + j * 4 + 3, none⟩ = some _ := cell_later hbw (hcell 3 _ rfl)
      have hC := specPatFits_any d _ u 400 wr (PatR.lasts d _ _ _ _ hre hbw) (HWP.out.1 u (List.mem_of_getElem? hu)) (Nat.le_trans (szRow_mem hu) HWP.out.2) ⟨by omega, by omega⟩
      have HU : Hid (c.Pats[j]? = some u) := hu
      have hjl' : (j : Int) < (len : Int) := by omega
      clear hu hvl hcell hre hbw
      go_wp2_with fail
      refine hC.mono ?_
      clear hC
      rintro e w1 ⟨r, rfl, hr, hb1⟩
      have HR : Hid (r = true ↔ pPatFits d u 400) := hr
      have HB2 : Hid (Below W.heap.size W w1) := HBj.out.trans (hb1.mono HBj.out.size)
      clear hr hb1 f0 f1 f2 f3 x1 HBj
      cases r with
      | true =>
        have HS2 : Hid (∀ (i : Nat) (t : Tm d), i < j + 1 → c.Pats[i]? = some t → pPatFits d t 400) := fun i t h1 h2 => by
          rcases Nat.lt_or_ge i j with q | q
          · exact HS.out i t q h2
          · obtain rfl : i = j := by omega
            rw [HU.out] at h2
            cases h2
            exact HR.out.1 rfl
        clear HS HR
        go_wp2_with fail
        go_roundw
        case rel => exact ⟨j + 1, by omega, by go_num, HB2, HS2⟩
        case measure => simp [intOf]; omega
      | false =>
        have HF : Hid (¬ PF) := HFN.out j u HU.out (fun e => by have := HR.out.2 e; cases this)
        have HB3 : Hid (Below w.heap.size w w1) := HBW.out.trans (HB2.out.mono HBW.out.size)
        clear HS HR HB2
        go_wp2_with fail
        go_ret
        exact bres_no HF.out HB3.out
    · obtain rfl : j = len := by omega
      have HF : Hid PF := HFA.out (fun i t h => HS.out i t (by have := (List.getElem?_eq_some_iff.1 h).1; have := HL.out; omega) h)
      have HB3 : Hid (Below w.heap.size w wr) := HBW.out.trans (HBj.out.mono HBW.out.size)
      have hjl' : decide ((j : Int) < (j : Int)) = false := by simp
      clear HS HBj
      go_wp2_with fail
      go_ret
      exact bres_yes HF.out HB3.out

def PcRes (d : Nat) (c : DCode d) (w : World) (e : Ending) (w' : World) : Prop := ∃ g c' xs, e = .returned (.slice (some ⟨g, 0, none⟩) xs.length c') ∧ Hid (PcX d c xs) ∧ w'.ownsRow w.heap.size 5 1 (.slice (some ⟨g, 0, none⟩) xs.length c') xs.length (xs.map (Value.int .u8)) ∧ Below w.heap.size w w'
theorem pcres {d : Nat} {c : DCode d} {w w' : World} {v : Value} {xs : List Int} (hx : PcX d c xs) (h : BR w.heap.size w' v xs) (hb : Below w.heap.size w w') : PcRes d c w (.returned v) w' := by
  obtain ⟨g, c', rfl, ho⟩ := h
  exact ⟨g, c', xs, rfl, hx, ho, hb⟩

set_option maxRecDepth 100000 in
set_option maxHeartbeats 8000000 in
theorem specPutCode_any (d : Nat) (vs : List Value) (c : DCode d) (w : World) (hc : CodeR d w vs c) (hwc : WfCode d c) (hz : szCodeD d c ≤ 1048576) :
    Calls Tryd.prog 5 #[.agg vs.toArray] w (PcRes d c w) := by
  have HCK : Hid (∀ V : World, Below w.heap.size w V → _) := fun V hV => specCodeOk_any d vs c V (CodeR.lasts d _ _ _ _ hc hV) hwc hz
  have HFP : Hid (∀ V : World, Below w.heap.size w V → _) := fun V hV => specPats_any d vs c V (CodeR.lasts d _ _ _ _ hc hV) hwc hz
  have hle := encC_le c
  obtain ⟨v0, v1, rfl, h0, h1⟩ := hc
  obtain ⟨a0, c0, rfl, hel0⟩ := h0
  obtain ⟨a3, c3, rfl, hel⟩ := h1
  have hz' : szRow szFnD c.Fns + szRow (szPatD d) c.Pats ≤ 1048576 := hz
  have e0 : c.Fns.length ≤ szRow szFnD c.Fns := Nat.le_add_right _ _
  have e1 : c.Pats.length ≤ szRow (szPatD d) c.Pats := Nat.le_add_right _ _
  have HE0 : Hid (∀ (i : Nat) (e : DFn), c.Fns[i]? = some e → ∃ b o vs, a0 = some ⟨b, o, none⟩ ∧ vs.length = 4 ∧ (∀ (j : Nat) (u : Value), vs[j]? = some u → w.cell? ⟨b, o + i * 4 + j, none⟩ = some u) ∧ FnR w vs e) := hel0
  have HE : Hid (∀ (i : Nat) (e : Tm d), c.Pats[i]? = some e → ∃ b o vs, a3 = some ⟨b, o, none⟩ ∧ vs.length = 4 ∧ (∀ (j : Nat) (u : Value), vs[j]? = some u → w.cell? ⟨b, o + i * 4 + j, none⟩ = some u) ∧ PatR d w vs e) := hel
  have HWP : Hid ((∀ x ∈ c.Fns, WfFn x) ∧ (∀ x ∈ c.Pats, WfPat d x) ∧ szRow szFnD c.Fns ≤ 1048576) := ⟨hwc.1.2, hwc.2.2, by omega⟩
  have HLE : Hid ((encC c).length ≤ 25165836) := by show _ ≤ _; omega
  obtain ⟨l0, hl0⟩ : ∃ l, c.Fns.length = l := ⟨_, rfl⟩
  obtain ⟨l3, hl3⟩ : ∃ l, c.Pats.length = l := ⟨_, rfl⟩
  have HL : Hid (c.Fns.length = l0 ∧ c.Pats.length = l3) := ⟨hl0, hl3⟩
  rw [hl0] at HCK HFP e0 ⊢
  rw [hl3] at HCK HFP e1 ⊢
  have hlen0 : l0 ≤ 1048576 := by omega
  have hlen3 : l3 ≤ 1048576 := by omega
  clear hel hel0 hz hz' hwc hl0 hl3 e0 e1 hle
  obtain ⟨W, hW⟩ : ∃ W, W = w.alloc (.cells #[.slice a0 l0 c0, .slice a3 l3 c3] 32) := ⟨_, rfl⟩
  have HBW : Hid (Below w.heap.size w W) := by rw [hW]; exact (Below.refl _ _).alloc (Nat.le_refl _) _
  have HB1 : Hid (W.heap[w.heap.size]? = some (.cells #[.slice a0 l0 c0, .slice a3 l3 c3] 32 (0, 0))) := by rw [hW]; exact heap_alloc_new w _
  have HBZ : Hid (∀ V : World, Below W.heap.size W V → w.heap.size ≤ V.heap.size) := fun V hV => Nat.le_trans HBW.out.size hV.size
  have hC := HCK.out W HBW.out
  rw [hW] at hC
  have HWS : Hid (W = _) := hW
  clear hW
  go_enter Tryd.func5, Tryd.ntmps5
  go_wp2_with fail
  refine hC.mono ?_
  clear hC
  rintro e w1 ⟨r1, rfl, hr1, hb1⟩
  rw [← HWS.out] at hb1
  have HR1 : Hid (r1 = true ↔ pCodeOk d c) := hr1
  have HB2 : Hid (Below W.heap.size W w1) := hb1
  clear hr1 hb1 HWS
  cases r1 with
  | false =>
    have HX : Hid (PcX d c []) := .inr ⟨fun h => (by have := HR1.out.2 h.1; simp at this), rfl⟩
    have HBF : Hid (Below w.heap.size w (w1.alloc (.cells #[] 5))) := HBW.out.trans ((HB2.out.alloc HB2.out.size _).mono HBW.out.size)
    have HBR : Hid (BR w.heap.size (w1.alloc (.cells #[] 5)) (.slice (some ⟨w1.heap.size, 0, none⟩) 0 0) []) := br_empty (heap_alloc_new w1 _) (HBZ.out _ HB2.out)
    clear HR1 HB2
    go_wp2_with fail
    go_ret
    exact pcres HX.out HBR.out HBF.out
  | true =>
    have hr := (HB2.out.block _ (lt_row HB1.out)).trans HB1.out
    have x0 : w1.cell? ⟨w.heap.size, 0, none⟩ = some (.slice a0 l0 c0) := by rw [cell_of_row w1 _ 0 _ _ _ hr]; rfl
    have x1 : w1.cell? ⟨w.heap.size, 1, none⟩ = some (.slice a3 l3 c3) := by rw [cell_of_row w1 _ 1 _ _ _ hr]; rfl
    have hC := HFP.out w1 (HBW.out.trans (HB2.out.mono HBW.out.size))
    clear hr
    go_wp2_with fail
    refine hC.mono ?_
    clear hC x0 x1
    rintro e w2 ⟨r2, rfl, hr2, hb2⟩
    have HR2 : Hid (r2 = true ↔ FitAll d c) := hr2
    have HB3 : Hid (Below W.heap.size W w2) := HB2.out.trans (hb2.mono HB2.out.size)
    clear hr2 hb2 HB2
    cases r2 with
    | false =>
      have HX : Hid (PcX d c []) := .inr ⟨fun h => (by have := HR2.out.2 h.2; simp at this), rfl⟩
      have HBF : Hid (Below w.heap.size w (w2.alloc (.cells #[] 5))) := HBW.out.trans ((HB3.out.alloc HB3.out.size _).mono HBW.out.size)
      have HBR : Hid (BR w.heap.size (w2.alloc (.cells #[] 5)) (.slice (some ⟨w2.heap.size, 0, none⟩) 0 0) []) := br_empty (heap_alloc_new w2 _) (HBZ.out _ HB3.out)
      clear HR1 HR2 HB3
      go_wp2_with fail
      go_ret
      exact pcres HX.out HBR.out HBF.out
    | true =>
      have HX : Hid (PcX d c (encC c)) := .inl ⟨⟨HR1.out.1 (by first | rfl | trivial), HR2.out.1 (by first | rfl | trivial)⟩, rfl⟩
      clear HR1 HR2
      have h64 : l0 ≤ 9223372036854775807 := by omega
      have hr := (HB3.out.block _ (lt_row HB1.out)).trans HB1.out
      have x0 : w2.cell? ⟨w.heap.size, 0, none⟩ = some (.slice a0 l0 c0) := by rw [cell_of_row w2 _ 0 _ _ _ hr]; rfl
      have hwz2 : w.heap.size < w2.heap.size := lt_row hr
      obtain ⟨V0, hV0⟩ : ∃ V, V = w2.alloc (.cells #[] 5) := ⟨_, rfl⟩
      have hbe : BR w.heap.size V0 (.slice (some ⟨w2.heap.size, 0, none⟩) 0 0) [] := by rw [hV0]; exact br_empty (heap_alloc_new w2 _) (HBZ.out _ HB3.out)
      have HB4 : Hid (Below W.heap.size W V0) := by rw [hV0]; exact HB3.out.alloc HB3.out.size _
      have hC := specNum_br w.heap.size _ [] l0 V0 hbe (HBZ.out _ HB4.out) (by simp) ⟨by omega, by omega⟩
      rw [hV0] at hC
      have HV0 : Hid (V0 = _) := hV0
      obtain ⟨zF, hzF⟩ : ∃ z, enc (code (l0 : Int)) = z := ⟨_, rfl⟩
      rw [List.nil_append, hzF] at hC
      have HZF : Hid (enc (code (l0 : Int)) = zF) := hzF
      clear hr hV0 hbe hzF
      go_wp2_with fail
      refine hC.mono ?_
      clear hC
      rintro e w3 ⟨v3, rfl, HV3, hb3⟩
      rw [← HV0.out] at hb3
      have HB5 : Hid (Below W.heap.size W w3) := HB4.out.trans (hb3.mono HB4.out.size)
      have HLF : Hid ((zF ++ c.Fns.flatMap encFn).length + 6 ≤ 1073741824) := by
        have h1 := HLE.out
        have h2 := encN_le c.Pats.length
        show _ ≤ _
        rw [← HZF.out, ← HL.out.1]
        unfold encC at h1
        simp only [List.length_append] at h1 ⊢
        omega
      clear hb3 HV0 HB4 HB3 x0 HCK HFP hwz2
      go_wp2_with fail
      go_loopw [3, 4] (fun a i wr => ∃ j : Nat, j ≤ l0 ∧ i = .int .i64 j ∧ Hid (BR w.heap.size wr a (zF ++ (c.Fns.take j).flatMap encFn)) ∧ Hid (Below W.heap.size W wr)) (fun _ i _ => l0 - (intOf i).toNat)
      case atStart => exact ⟨0, Nat.zero_le _, rfl, by simpa using HV3, HB5⟩
      case round =>
        clear HV3 HB5
        obtain ⟨j, hj, rfl, HVj, HBj⟩ := hrel
        have hr := (HBj.out.block _ (lt_row HB1.out)).trans HB1.out
        have x0 : wr.cell? ⟨w.heap.size, 0, none⟩ = some (.slice a0 l0 c0) := by rw [cell_of_row wr _ 0 _ _ _ hr]; rfl
        clear hr
        by_cases hjl : j < l0
        · obtain ⟨f, hf⟩ : ∃ u, c.Fns[j]? = some u := ⟨_, List.getElem?_eq_getElem (by have := HL.out.1; omega)⟩
          obtain ⟨b, o, vs, rfl, hvl, hcell, v4, rfl, hre⟩ := HE0.out j f hf
          obtain ⟨a4, c4, rfl, hinr⟩ := hre
          have hbw := HBW.out.trans (HBj.out.mono HBW.out.size)
          have f0 : wr.cell? ⟨b, o + j * 4, none⟩ = some _ := cell_later hbw (hcell 0 _ rfl)
          have f1 : wr.cell? ⟨b, o + j * 4 + 1, none⟩ = some _ := cell_later hbw (hcell 1 _ rfl)
          have f2 : wr.cell? ⟨b, o + j * 4 + 2, none⟩ = some _ := cell_later hbw (hcell 2 _ rfl)
          have f3 : wr.cell? ⟨b, o + j * 4 + 3, none⟩ = some _ := cell_later hbw (hcell 3 _ rfl)
          obtain ⟨ws, wa, wt, wl⟩ := HWP.out.1 f (List.mem_of_getElem? hf)
          have hfz0 : szFnD f ≤ 1048576 := Nat.le_trans (szRow_mem hf) HWP.out.2.2
          have hfz : f.Name.size + szRow szInsD f.Ins ≤ 1048576 := hfz0
          have hil : f.Ins.length ≤ szRow szInsD f.Ins := Nat.le_add_right _ _
          have hp := flat_part encFn c.Fns (j + 1)
          have ht := flat_take (f := encFn) hf
          have hlf := HLF.out
          rw [ht, List.length_append] at hp
          rw [List.length_append] at hlf
          have hen : (encFn f).length = (encH f).length + (f.Ins.flatMap encI).length := by unfold encFn; rw [List.length_append]
          obtain ⟨zj, hzj⟩ : ∃ z, zF ++ (c.Fns.take j).flatMap encFn = z := ⟨_, rfl⟩
          have hzl : zj.length = zF.length + ((c.Fns.take j).flatMap encFn).length := by rw [← hzj, List.length_append]
          rw [hzj] at HVj
          have HNX : Hid (zF ++ (c.Fns.take (j + 1)).flatMap encFn = (zj ++ encH f) ++ f.Ins.flatMap encI) := by show _ = _; rw [ht, ← hzj]; unfold encFn; simp only [List.append_assoc]
          have HIN : Hid (∀ (i : Nat) (e : DIns), f.Ins[i]? = some e → ∃ b o vs, a4 = some ⟨b, o, none⟩ ∧ vs.length = 4 ∧ (∀ (j : Nat) (u : Value), vs[j]? = some u → w.cell? ⟨b, o + i * 4 + j, none⟩ = some u) ∧ InsR w vs e) := hinr
          have HWI : Hid (∀ x ∈ f.Ins, WfIns x) := wl.2
          have HIZ : Hid (szRow szInsD f.Ins ≤ 1048576) := by show _ ≤ _; omega
          obtain ⟨NM, hNM⟩ : ∃ l, f.Name = l := ⟨_, rfl⟩
          obtain ⟨AR, hAR⟩ : ∃ l, f.Args = l := ⟨_, rfl⟩
          obtain ⟨SL, hSL⟩ : ∃ l, f.Slots = l := ⟨_, rfl⟩
          obtain ⟨IS, hIS⟩ : ∃ l, f.Ins = l := ⟨_, rfl⟩
          obtain ⟨z1, hz1⟩ : ∃ z, zj ++ put NM = z := ⟨_, rfl⟩
          obtain ⟨z2, hz2⟩ : ∃ z, z1 ++ enc (code AR) = z := ⟨_, rfl⟩
          obtain ⟨z3, hz3⟩ : ∃ z, z2 ++ enc (code SL) = z := ⟨_, rfl⟩
          obtain ⟨z4, hz4⟩ : ∃ z, z3 ++ enc (code IS.length) = z := ⟨_, rfl⟩
          have HZ4 : Hid (zj ++ encH f = z4) := by show _ = _; rw [← hz4, ← hz3, ← hz2, ← hz1, ← hNM, ← hAR, ← hSL, ← hIS]; unfold encH; simp only [List.append_assoc]
          rw [HZ4.out] at HNX
          have l1 : z1.length = zj.length + (put NM).length := by rw [← hz1, List.length_append]
          have l2 : z2.length = z1.length + (enc (code AR)).length := by rw [← hz2, List.length_append]
          have l3' : z3.length = z2.length + (enc (code SL)).length := by rw [← hz3, List.length_append]
          have l4 : z4.length = z3.length + (enc (code IS.length)).length := by rw [← hz4, List.length_append]
          have hz4l : z4.length = zj.length + (encH f).length := by rw [← HZ4.out, List.length_append]
          rw [hNM] at ws hfz f0
          rw [hAR] at wa f1
          rw [hSL] at wt f2
          rw [hIS] at hil hfz f3 HIN HWI HIZ HNX hen
          have hws : NM.size ≤ 1073741824 := by omega
          have H1 : Hid (∀ V, BR w.heap.size V u3 zj → w.heap.size ≤ V.heap.size → _) := fun V hV hb => specText_br w.heap.size u3 zj NM V hV hb (by omega) hws
          have H2 : Hid (∀ V v1, BR w.heap.size V v1 z1 → w.heap.size ≤ V.heap.size → _) := fun V v1 hV hb => specNum_br w.heap.size v1 z1 AR V hV hb (by omega) wa
          have H3 : Hid (∀ V v1, BR w.heap.size V v1 z2 → w.heap.size ≤ V.heap.size → _) := fun V v1 hV hb => specNum_br w.heap.size v1 z2 SL V hV hb (by omega) wt
          have H4 : Hid (∀ V v1, BR w.heap.size V v1 z3 → w.heap.size ≤ V.heap.size → _) := fun V v1 hV hb => specNum_br w.heap.size v1 z3 IS.length V hV hb (by omega) ⟨by omega, by omega⟩
          rw [hz1] at H1
          rw [hz2] at H2
          rw [hz3] at H3
          rw [hz4] at H4
          have HLI : Hid (z4.length + (IS.flatMap encI).length ≤ 1073741824) := by show _ ≤ _; omega
          obtain ⟨li, hli⟩ : ∃ l, IS.length = l := ⟨_, rfl⟩
          have HLL : Hid (IS.length = li) := hli
          rw [hli] at H4 f3 hil
          have hliB : li ≤ 1048576 := by omega
          obtain ⟨X, hX⟩ : ∃ X, X = wr.alloc (.cells #[.string NM, .int .i64 AR, .int .i64 SL, .slice a4 li c4] 45) := ⟨_, rfl⟩
          obtain ⟨bx, hbx⟩ : ∃ b, b = wr.heap.size := ⟨_, rfl⟩
          have hAX : Below wr.heap.size wr X := by rw [hX]; exact (Below.refl _ _).alloc (Nat.le_refl _) _
          have HBX : Hid (X.heap[bx]? = some (.cells #[.string NM, .int .i64 AR, .int .i64 SL, .slice a4 li c4] 45 (0, 0))) := by rw [hX, hbx]; exact heap_alloc_new wr _
          have HXB : Hid (Below W.heap.size W X) := HBj.out.trans (hAX.mono HBj.out.size)
          have HB0 : Hid (BR w.heap.size X.drew u3 zj) := HVj.out.later hAX.drew
          have HSK : Hid (∀ V : World, Below X.heap.size X V → V.cell? ⟨bx, 0, none⟩ = some (.string NM) ∧ V.cell? ⟨bx, 1, none⟩ = some (.int .i64 AR) ∧ V.cell? ⟨bx, 2, none⟩ = some (.int .i64 SL) ∧ V.cell? ⟨bx, 3, none⟩ = some (.slice a4 li c4)) := fun V hV => by
            have hr := (hV.block _ (lt_row HBX.out)).trans HBX.out
            exact ⟨by rw [cell_of_row V _ 0 _ _ _ hr]; rfl, by rw [cell_of_row V _ 1 _ _ _ hr]; rfl, by rw [cell_of_row V _ 2 _ _ _ hr]; rfl, by rw [cell_of_row V _ 3 _ _ _ hr]; rfl⟩
          have HXZ : Hid (∀ V : World, Below X.heap.size X V → w.heap.size ≤ V.heap.size) := fun V hV => HBZ.out _ (HXB.out.trans (hV.mono HXB.out.size))
          have HWX : Hid (X = _) := hX
          have HBN : Hid (bx = wr.heap.size) := hbx
          have hjl' : (j : Int) < (l0 : Int) := by omega
          clear hf hvl hcell hinr hbw hfz0 ws wa wt wl hfz hil hp ht hlf hen hzj hzl hNM hAR hSL hIS hz1 hz2 hz3 hz4 l1 l2 l3' l4 hz4l hws hli hX hbx hAX HVj HZ4
          go_wp2_with fail
          rw [← HWX.out, ← HBN.out]
          clear HWX f0 f1 f2 f3 x0
          have hY : Below X.heap.size X X.drew := (Below.refl _ _).drew
          obtain ⟨y0, y1, y2, y3⟩ := HSK.out X (Below.refl _ _)
          go_cut [3] (fun v4 wx => Hid (BR w.heap.size wx v4 z4) ∧ Hid (Below X.heap.size X wx))
          case first =>
            go_region_held3 (fun V => V.cell? ⟨bx, 0, none⟩ = some (.string NM) ∧ V.cell? ⟨bx, 1, none⟩ = some (.int .i64 AR) ∧ V.cell? ⟨bx, 2, none⟩ = some (.int .i64 SL) ∧ V.cell? ⟨bx, 3, none⟩ = some (.slice a4 li c4)) (first | (with_reducible exact HSK.out _ hY) | (with_reducible exact HSK.out _ (Below.refl _ _))) (first
              | (go_at_call 18; (with_reducible refine (H1.out _ HB0.out (HXZ.out _ hY)).mono ?_); rintro e V1 ⟨v1, rfl, HBa, hB1⟩; have hY : Below X.heap.size X V1 := hY.trans (hB1.mono hY.size))
              | (go_at_call 17; (with_reducible refine (H2.out _ _ HBa.out (HXZ.out _ hY)).mono ?_); rintro e V2 ⟨v2, rfl, HBb, hB2⟩; have hY : Below X.heap.size X V2 := hY.trans (hB2.mono hY.size))
              | (go_at_call 17; (with_reducible refine (H3.out _ _ HBb.out (HXZ.out _ hY)).mono ?_); rintro e V3 ⟨v3, rfl, HBc, hB3⟩; have hY : Below X.heap.size X V3 := hY.trans (hB3.mono hY.size))
              | (go_at_call 17; (with_reducible refine (H4.out _ _ HBc.out (HXZ.out _ hY)).mono ?_); rintro e V4 ⟨v4, rfl, HBd, hB4⟩; have hY : Below X.heap.size X V4 := hY.trans (hB4.mono hY.size)))
            all_goals
              go_wp2_with fail
              go_meet
              case rel => exact ⟨HBd, hY⟩
          case rest =>
          obtain ⟨HV, HBV⟩ := hcut
          obtain ⟨Y0, hY0⟩ : ∃ V, V = wc := ⟨_, rfl⟩
          rw [← hY0] at HV HBV ⊢
          clear hY0 y0 y1 y2 y3 H1 H2 H3 H4 hY HB0 HBX HBN
          go_wp2_with fail
          go_loopw [3, 6] (fun a i wx => ∃ k : Nat, k ≤ li ∧ i = .int .i64 k ∧ Hid (BR w.heap.size wx a (z4 ++ (IS.take k).flatMap encI)) ∧ Hid (Below X.heap.size X wx)) (fun _ i _ => li - (intOf i).toNat)
          case atStart => exact ⟨0, Nat.zero_le _, rfl, by simpa using HV, HBV⟩
          case round =>
            clear HV HBV
            obtain ⟨k, hk, rfl, HVk, HBk⟩ := hrel
            rename World => wq
            obtain ⟨_, _, _, y3⟩ := HSK.out wq HBk.out
            by_cases hkl : k < li
            · obtain ⟨xi, hx⟩ : ∃ u, IS[k]? = some u := ⟨_, List.getElem?_eq_getElem (by have := HLL.out; omega)⟩
              obtain ⟨b2, o2, vs, rfl, hvl, hcell, hre⟩ := HIN.out k xi hx
              have hre' : vs = [.int .i64 xi.Op, .int .i64 xi.N, .string xi.S, .int .i64 xi.To] := hre
              subst hre'
              have hbw := HBW.out.trans ((HXB.out.trans (HBk.out.mono HXB.out.size)).mono HBW.out.size)
              have g0 : wq.cell? ⟨b2, o2 + k * 4, none⟩ = some _ := cell_later hbw (hcell 0 _ rfl)
              have g1 : wq.cell? ⟨b2, o2 + k * 4 + 1, none⟩ = some _ := cell_later hbw (hcell 1 _ rfl)
              have g2 : wq.cell? ⟨b2, o2 + k * 4 + 2, none⟩ = some _ := cell_later hbw (hcell 2 _ rfl)
              have g3 : wq.cell? ⟨b2, o2 + k * 4 + 3, none⟩ = some _ := cell_later hbw (hcell 3 _ rfl)
              obtain ⟨wo, wn, ws, wt⟩ := HWI.out xi (List.mem_of_getElem? hx)
              have hxs : szInsD xi ≤ 1048576 := Nat.le_trans (szRow_mem hx) HIZ.out
              have hxs' : xi.S.size ≤ 1048576 := hxs
              have hp := flat_part encI IS (k + 1)
              have ht := flat_take (f := encI) hx
              have hlf := HLI.out
              rw [ht, List.length_append] at hp
              obtain ⟨zk, hzk⟩ : ∃ z, z4 ++ (IS.take k).flatMap encI = z := ⟨_, rfl⟩
              have hzl : zk.length = z4.length + ((IS.take k).flatMap encI).length := by rw [← hzk, List.length_append]
              rw [hzk] at HVk
              obtain ⟨OP, hOP⟩ : ∃ l, xi.Op = l := ⟨_, rfl⟩
              obtain ⟨NN, hNN⟩ : ∃ l, xi.N = l := ⟨_, rfl⟩
              obtain ⟨SS, hSS⟩ : ∃ l, xi.S = l := ⟨_, rfl⟩
              obtain ⟨TT, hTT⟩ : ∃ l, xi.To = l := ⟨_, rfl⟩
              have hen : (encI xi).length = (((enc (code xi.Op)).length + (enc (code xi.N)).length) + (put xi.S).length) + (enc (code xi.To)).length := by unfold encI; simp only [List.length_append]
              obtain ⟨q1, hq1⟩ : ∃ z, zk ++ enc (code OP) = z := ⟨_, rfl⟩
              obtain ⟨q2, hq2⟩ : ∃ z, q1 ++ enc (code NN) = z := ⟨_, rfl⟩
              obtain ⟨q3, hq3⟩ : ∃ z, q2 ++ put SS = z := ⟨_, rfl⟩
              obtain ⟨q4, hq4⟩ : ∃ z, q3 ++ enc (code TT) = z := ⟨_, rfl⟩
              have HNK : Hid (z4 ++ (IS.take (k + 1)).flatMap encI = q4) := by show _ = _; rw [ht, ← hq4, ← hq3, ← hq2, ← hq1, ← hzk, ← hOP, ← hNN, ← hSS, ← hTT]; unfold encI; simp only [List.append_assoc]
              have m1 : q1.length = zk.length + (enc (code OP)).length := by rw [← hq1, List.length_append]
              have m2 : q2.length = q1.length + (enc (code NN)).length := by rw [← hq2, List.length_append]
              have m3 : q3.length = q2.length + (put SS).length := by rw [← hq3, List.length_append]
              rw [hOP] at wo g0 hen
              rw [hNN] at wn g1 hen
              rw [hSS] at ws g2 hen hxs'
              rw [hTT] at wt g3 hen
              have J1 : Hid (∀ V, BR w.heap.size V u3 zk → w.heap.size ≤ V.heap.size → _) := fun V hV hb => specNum_br w.heap.size u3 zk OP V hV hb (by omega) wo
              have J2 : Hid (∀ V v1, BR w.heap.size V v1 q1 → w.heap.size ≤ V.heap.size → _) := fun V v1 hV hb => specNum_br w.heap.size v1 q1 NN V hV hb (by omega) wn
              have J3 : Hid (∀ V v1, BR w.heap.size V v1 q2 → w.heap.size ≤ V.heap.size → _) := fun V v1 hV hb => specText_br w.heap.size v1 q2 SS V hV hb (by omega) (by omega)
              have J4 : Hid (∀ V v1, BR w.heap.size V v1 q3 → w.heap.size ≤ V.heap.size → _) := fun V v1 hV hb => specNum_br w.heap.size v1 q3 TT V hV hb (by omega) wt
              rw [hq1] at J1
              rw [hq2] at J2
              rw [hq3] at J3
              rw [hq4] at J4
              obtain ⟨Z, hZ⟩ : ∃ X, X = wq.alloc (.cells #[.int .i64 OP, .int .i64 NN, .string SS, .int .i64 TT] 48) := ⟨_, rfl⟩
              obtain ⟨bz, hbz⟩ : ∃ b, b = wq.heap.size := ⟨_, rfl⟩
              have hAZ : Below wq.heap.size wq Z := by rw [hZ]; exact (Below.refl _ _).alloc (Nat.le_refl _) _
              have HBZ2 : Hid (Z.heap[bz]? = some (.cells #[.int .i64 OP, .int .i64 NN, .string SS, .int .i64 TT] 48 (0, 0))) := by rw [hZ, hbz]; exact heap_alloc_new wq _
              have HXZ2 : Hid (Below X.heap.size X Z) := HBk.out.trans (hAZ.mono HBk.out.size)
              have HB0 : Hid (BR w.heap.size Z.drew u3 zk) := HVk.out.later hAZ.drew
              have HSK2 : Hid (∀ V : World, Below Z.heap.size Z V → V.cell? ⟨bz, 0, none⟩ = some (.int .i64 OP) ∧ V.cell? ⟨bz, 1, none⟩ = some (.int .i64 NN) ∧ V.cell? ⟨bz, 2, none⟩ = some (.string SS) ∧ V.cell? ⟨bz, 3, none⟩ = some (.int .i64 TT)) := fun V hV => by
                have hr := (hV.block _ (lt_row HBZ2.out)).trans HBZ2.out
                exact ⟨by rw [cell_of_row V _ 0 _ _ _ hr]; rfl, by rw [cell_of_row V _ 1 _ _ _ hr]; rfl, by rw [cell_of_row V _ 2 _ _ _ hr]; rfl, by rw [cell_of_row V _ 3 _ _ _ hr]; rfl⟩
              have HZZ : Hid (∀ V : World, Below Z.heap.size Z V → w.heap.size ≤ V.heap.size) := fun V hV => HXZ.out _ (HXZ2.out.trans (hV.mono HXZ2.out.size))
              have HWZ : Hid (Z = _) := hZ
              have HBN2 : Hid (bz = wq.heap.size) := hbz
              have hkl' : (k : Int) < (li : Int) := by omega
              clear hx hvl hcell hbw wo wn ws wt hxs hxs' hp ht hlf hzk hzl hOP hNN hSS hTT hen hq1 hq2 hq3 hq4 m1 m2 m3 hZ hbz hAZ HVk hre
              go_wp2_with fail
              rw [← HWZ.out, ← HBN2.out]
              clear HWZ g0 g1 g2 g3 y3
              have hY : Below Z.heap.size Z Z.drew := (Below.refl _ _).drew
              obtain ⟨y0, y1, y2, y3⟩ := HSK2.out Z (Below.refl _ _)
              go_region_held3 (fun V => V.cell? ⟨bz, 0, none⟩ = some (.int .i64 OP) ∧ V.cell? ⟨bz, 1, none⟩ = some (.int .i64 NN) ∧ V.cell? ⟨bz, 2, none⟩ = some (.string SS) ∧ V.cell? ⟨bz, 3, none⟩ = some (.int .i64 TT)) (first | (with_reducible exact HSK2.out _ hY) | (with_reducible exact HSK2.out _ (Below.refl _ _))) (first
                | (go_at_call 17; (with_reducible refine (J1.out _ HB0.out (HZZ.out _ hY)).mono ?_); rintro e V1 ⟨v1, rfl, HBa, hB1⟩; have hY : Below Z.heap.size Z V1 := hY.trans (hB1.mono hY.size))
                | (go_at_call 17; (with_reducible refine (J2.out _ _ HBa.out (HZZ.out _ hY)).mono ?_); rintro e V2 ⟨v2, rfl, HBb, hB2⟩; have hY : Below Z.heap.size Z V2 := hY.trans (hB2.mono hY.size))
                | (go_at_call 18; (with_reducible refine (J3.out _ _ HBb.out (HZZ.out _ hY)).mono ?_); rintro e V3 ⟨v3, rfl, HBc, hB3⟩; have hY : Below Z.heap.size Z V3 := hY.trans (hB3.mono hY.size))
                | (go_at_call 17; (with_reducible refine (J4.out _ _ HBc.out (HZZ.out _ hY)).mono ?_); rintro e V4 ⟨v4, rfl, HBd, hB4⟩; have hY : Below Z.heap.size Z V4 := hY.trans (hB4.mono hY.size)))
              all_goals
                have HYF : Hid (Below X.heap.size X V4) := HXZ2.out.trans (hY.mono HXZ2.out.size)
                have HVF : Hid (BR w.heap.size V4 v4 (z4 ++ (IS.take (k + 1)).flatMap encI)) := by rw [HNK.out]; exact HBd.out
                clear hY y0 y1 y2 y3 hB1 hB2 hB3 hB4 HBa HBb HBc HBd J1 J2 J3 J4
                go_wp2_with fail
                go_roundw
                case rel => exact ⟨k + 1, by omega, by go_num, HVF, HYF⟩
                case measure => simp [intOf]; omega
            · obtain rfl : k = li := by omega
              have HF : Hid (BR w.heap.size wq u3 (zF ++ (c.Fns.take (j + 1)).flatMap encFn)) := by
                have := HVk.out
                rw [List.take_of_length_le (by have := HLL.out; omega)] at this
                rw [HNX.out]
                exact this
              have HB2 : Hid (Below W.heap.size W wq) := HXB.out.trans (HBk.out.mono HXB.out.size)
              have hkl' : decide ((k : Int) < (k : Int)) = false := by simp
              clear HVk HBk
              go_wp2_with fail
              go_roundw
              case rel => exact ⟨j + 1, by omega, by go_num, HF, HB2⟩
              case measure => simp [intOf]; omega
        · obtain rfl : j = l0 := by omega
          have HVF := HVj.out
          rw [List.take_of_length_le (by have := HL.out.1; omega)] at HVF
          obtain ⟨zP, hzP⟩ : ∃ z, zF ++ c.Fns.flatMap encFn = z := ⟨_, rfl⟩
          rw [hzP] at HVF
          have hlf := HLF.out
          rw [hzP] at hlf
          obtain ⟨zQ, hzQ⟩ : ∃ z, zP ++ enc (code (l3 : Int)) = z := ⟨_, rfl⟩
          have HEND : Hid (encC c = zQ ++ c.Pats.flatMap (encPt d)) := by
            show _ = _
            rw [← hzQ, ← hzP, ← HZF.out, ← HL.out.1, ← HL.out.2]
            unfold encC
            rfl
          have hC := specNum_br w.heap.size u3 zP l3 wr HVF (HBZ.out _ HBj.out) (by omega) ⟨by omega, by omega⟩
          rw [hzQ] at hC
          have hr := (HBj.out.block _ (lt_row HB1.out)).trans HB1.out
          have x1 : wr.cell? ⟨w.heap.size, 1, none⟩ = some (.slice a3 l3 c3) := by rw [cell_of_row wr _ 1 _ _ _ hr]; rfl
          have hjl' : decide ((j : Int) < (j : Int)) = false := by simp
          have h63 : l3 ≤ 9223372036854775807 := by omega
          clear hr HVj HVF hzP hlf hzQ
          go_wp2_with fail
          refine hC.mono ?_
          clear hC
          rintro e w4 ⟨v4, rfl, HV4, hb4⟩
          have HB6 : Hid (Below W.heap.size W w4) := HBj.out.trans (hb4.mono HBj.out.size)
          clear hb4 x1 HBj
          go_wp2_with fail
          have HLQ : Hid (zQ.length + (c.Pats.flatMap (encPt d)).length ≤ 1073741824) := by
            have h1 := HLE.out
            rw [HEND.out, List.length_append] at h1
            show _ ≤ _
            omega
          go_loopw [3, 8] (fun a i wx => ∃ k : Nat, k ≤ l3 ∧ i = .int .i64 k ∧ Hid (BR w.heap.size wx a (zQ ++ (c.Pats.take k).flatMap (encPt d))) ∧ Hid (Below W.heap.size W wx)) (fun _ i _ => l3 - (intOf i).toNat)
          case atStart => exact ⟨0, Nat.zero_le _, rfl, by simpa using HV4, HB6⟩
          case round =>
            clear HV4 HB6
            obtain ⟨k, hk, rfl, HVk, HBk⟩ := hrel
            rename World => wq
            have hr := (HBk.out.block _ (lt_row HB1.out)).trans HB1.out
            have x1 : wq.cell? ⟨w.heap.size, 1, none⟩ = some (.slice a3 l3 c3) := by rw [cell_of_row wq _ 1 _ _ _ hr]; rfl
            clear hr
            by_cases hkl : k < l3
            · obtain ⟨u, hu⟩ : ∃ u, c.Pats[k]? = some u := ⟨_, List.getElem?_eq_getElem (by have := HL.out.2; omega)⟩
              obtain ⟨b, o, vs, rfl, hvl, hcell, hre⟩ := HE.out k u hu
              obtain ⟨y0, y1, y2, ya3, yl3, yc3, rfl⟩ := PatR.shape _ _ _ _ hre
              have hbw := HBW.out.trans (HBk.out.mono HBW.out.size)
              have f0 : wq.cell? ⟨b, o + k * 4, none⟩ = some _ := cell_later hbw (hcell 0 _ rfl)
              have f1 : wq.cell? ⟨b, o + k * 4 + 1, none⟩ = some _ := cell_later hbw (hcell 1 _ rfl)
              have f2 : wq.cell? ⟨b, o + k * 4 + 2, none⟩ = some _ := cell_later hbw (hcell 2 _ rfl)
              have f3 : wq.cell? ⟨b, o + k * 4 + 3, none⟩ = some _ := cell_later hbw (hcell 3 _ rfl)
              have hp := flat_part (encPt d) c.Pats (k + 1)
              have ht := flat_take (f := encPt d) hu
              have hC := specPutPat_any d w.heap.size u3 _ _ u wq HVk.out (HBZ.out _ HBk.out) (PatR.lasts d _ _ _ _ hre hbw) (HWP.out.2.1 u (List.mem_of_getElem? hu)) (by have := HLQ.out; rw [ht, List.length_append] at hp; rw [List.length_append]; omega)
              rw [List.append_assoc, ← ht] at hC
              have hkl' : (k : Int) < (l3 : Int) := by omega
              clear hu hvl hcell hre hbw hp ht HVk
              go_wp2_with fail
              refine hC.mono ?_
              clear hC
              rintro e w5 ⟨v5, rfl, HN, hb5⟩
              have HB7 : Hid (Below W.heap.size W w5) := HBk.out.trans (hb5.mono HBk.out.size)
              clear hb5 f0 f1 f2 f3 x1 HBk
              go_wp2_with fail
              go_roundw
              case rel => exact ⟨k + 1, by omega, by go_num, HN, HB7⟩
              case measure => simp [intOf]; omega
            · obtain rfl : k = l3 := by omega
              have HF : Hid (BR w.heap.size wq u3 (encC c)) := by
                have := HVk.out
                rw [List.take_of_length_le (by have := HL.out.2; omega)] at this
                rw [HEND.out]
                exact this
              have HB8 : Hid (Below w.heap.size w wq) := HBW.out.trans (HBk.out.mono HBW.out.size)
              have hkl' : decide ((k : Int) < (k : Int)) = false := by simp
              clear HVk HBk
              go_wp2_with fail
              go_ret
              exact pcres HX.out HF.out HB8.out

end Go.Proofs.YtfachfimdenapaaDoor
