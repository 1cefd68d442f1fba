/- A function, and code: whether it is right: the model's. -/
import Derived.Test.YtfachfimdenapaaDoorCs1M
import Derived.Test.YtfachfimdenapaaDoorCk1M
namespace Go.Proofs.YtfachfimdenapaaDoor
open Go.RowKit
set_option linter.unusedVariables false

/-- A function that is right, in the model's words. -/
def FnM {d : Nat} (c : DCode d) (i : Nat) (f : DFn) : Prop :=
  (AtomP f.Name ∧ ¬ Wrd f.Name) ∧ fnIx c.Fns f.Name = i ∧ (0 ≤ f.Args ∧ f.Args ≤ 4) ∧ (f.Args ≤ f.Slots ∧ f.Slots ≤ 400) ∧ (1 ≤ f.Ins.length ∧ f.Ins.length ≤ 1500) ∧
      (∀ (k : Nat) (x : DIns), f.Ins[k]? = some x → LiP c f.Slots f.Ins.length k x.Op x.N x.S x.To) ∧ (∃ q, rnM f.Ins.length 0 f.Ins (hs0 f.Ins.length) = some q) ∧ ∀ x, f.Ins.getLast? = some x → x.Op = 12 ∨ x.Op = 11
theorem fnP_model {d : Nat} (c : DCode d) (i : Nat) (f : DFn) : FnP c i f ↔ FnM c i f := by
  unfold FnM
  unfold FnP
  constructor
  · rintro ⟨h1, h2, h3, h4, h5, h6, q, h7⟩
    obtain ⟨t1, t2⟩ := (rn_iff f.Ins).1 ⟨q, h7⟩
    refine ⟨h1, h2, h3, h4, h5, fun k x hx => ⟨h6 x (List.mem_of_getElem? hx), fun ho => ?_⟩, t2, fun x hx => rnP_last f.Ins 0 _ q x (by omega) h7 hx⟩
    have := (ToP_iff _ _ _).1 t1 k x hx ho
    rw [Nat.zero_add] at this
    exact this
  · rintro ⟨h1, h2, h3, h4, h5, h6, h7, h8⟩
    refine ⟨h1, h2, h3, h4, h5, fun x hx => ?_, (rn_iff f.Ins).2 ⟨(ToP_iff _ _ _).2 fun k x hx ho => ?_, h7⟩⟩
    · obtain ⟨k, hk, e⟩ := List.getElem_of_mem hx
      exact (h6 k x (by rw [List.getElem?_eq_getElem hk, e])).1
    · rw [Nat.zero_add]
      exact (h6 k x hx).2 ho

set_option maxRecDepth 100000 in
set_option maxHeartbeats 4000000 in
theorem l9FnOk_any {d : Nat} (a0 : Option Addr) (l0 c0 : Nat) (a1 : Option Addr) (l1 c1 : Nat) (c : DCode d) (i : Nat) (f : DFn) (w : World)
    (hc : CodeR d w [.slice a0 l0 c0, .slice a1 l1 c1] c) (hwc : WfCode d c) (hz : szCodeD d c ≤ 1048576) (hf : c.Fns[i]? = some f) :
    Calls Tryd.prog 33 #[.agg #[.slice a0 l0 c0, .slice a1 l1 c1], .int .i64 i] w fun e w' => BRes (FnP c i f) w e w' := by
  obtain ⟨PP, hPP⟩ : ∃ P : Prop, FnP c i f = P := ⟨_, rfl⟩
  have HPP : Hid (FnP c i f = PP) := hPP
  rw [hPP]
  clear hPP
  have HPM : Hid (PP ↔ FnM c i f) := by rw [← HPP.out]; exact fnP_model c i f
  have hcc := hc
  obtain ⟨w0, w1, e0, hF, hP⟩ := hcc
  simp only [List.cons.injEq, and_true] at e0
  obtain ⟨rfl, rfl⟩ := e0
  obtain ⟨aa, cc, ee⟩ := hF.slice
  simp only [Value.slice.injEq] at ee
  obtain ⟨-, el, -⟩ := ee
  obtain ⟨b, o, a3, c3, rfl, f0, f1, f2, f3, hrow⟩ := Fn_at hF i f hf
  have wf := hwc.1.2 f (List.mem_of_getElem? hf)
  have hfl : f.Ins.length ≤ 1048576 := by
    have h5 := szRow_mem (f := szFnD) hf
    have h6 := szRow_len szInsD f.Ins
    have h7 : szFnD f = f.Name.size + szRow szInsD f.Ins := rfl
    unfold szCodeD at hz
    omega
  have HLN : Hid (c.Fns.length = l0 ∧ l0 ≤ 1048576) := ⟨el.symm, by have := szRow_len szFnD c.Fns; unfold szCodeD at hz; omega⟩
  have hil : i < l0 := by have := (List.getElem?_eq_some_iff.1 hf).1; have := HLN.out; omega
  have hil' : (i : Int) < (l0 : Int) := by omega
  have hl0 : l0 ≤ 1048576 := HLN.out.2
  obtain ⟨l3, hl3⟩ : ∃ l3, f.Ins.length = l3 := ⟨_, rfl⟩
  rw [hl3] at f3 hrow hfl
  obtain ⟨W, hW⟩ : ∃ W, W = (w.alloc (.cells #[.slice (some ⟨b, o, none⟩) l0 c0, .slice a1 l1 c1] 32)).alloc (.cells #[.string f.Name, .int .i64 f.Args, .int .i64 f.Slots, .slice a3 l3 c3] 45) := ⟨_, rfl⟩
  have hA : Below w.heap.size w W := by rw [hW]; exact ((Below.refl _ _).alloc (Nat.le_refl _) _).alloc (by simp) _
  have nB : W.heap[w.heap.size + 1]? = some (.cells #[.string f.Name, .int .i64 f.Args, .int .i64 f.Slots, .slice a3 l3 c3] 45 (0, 0)) := by
    rw [hW, show w.heap.size + 1 = (w.alloc (.cells #[.slice (some ⟨b, o, none⟩) l0 c0, .slice a1 l1 c1] 32)).heap.size from by simp]; exact heap_alloc_new _ _
  have nA : W.heap[w.heap.size]? = some (.cells #[.slice (some ⟨b, o, none⟩) l0 c0, .slice a1 l1 c1] 32 (0, 0)) := by
    rw [hW, (((Below.refl _ _).alloc (Nat.le_refl _) _).block w.heap.size (by simp))]; exact heap_alloc_new _ _
  have HB : Hid (Below w.heap.size w W) := hA
  have HBX : Hid (∀ V : World, Below W.heap.size W V → V.cell? ⟨w.heap.size, 0, none⟩ = some (.slice (some ⟨b, o, none⟩) l0 c0) ∧ V.cell? ⟨w.heap.size, 1, none⟩ = some (.slice a1 l1 c1) ∧ V.cell? ⟨w.heap.size + 1, 0, none⟩ = some (.string f.Name) ∧ V.cell? ⟨w.heap.size + 1, 1, none⟩ = some (.int .i64 f.Args) ∧ V.cell? ⟨w.heap.size + 1, 2, none⟩ = some (.int .i64 f.Slots) ∧ V.cell? ⟨w.heap.size + 1, 3, none⟩ = some (.slice a3 l3 c3) ∧ w.heap.size + 1 < V.heap.size) := fun V hV => by
    have mA := (hV.block _ (lt_row nA)).trans nA
    have mB := (hV.block _ (lt_row nB)).trans nB
    exact ⟨by rw [cell_of_row V _ 0 _ _ _ mA]; rfl, by rw [cell_of_row V _ 1 _ _ _ mA]; rfl, by rw [cell_of_row V _ 0 _ _ _ mB]; rfl, by rw [cell_of_row V _ 1 _ _ _ mB]; rfl, by rw [cell_of_row V _ 2 _ _ _ mB]; rfl, by rw [cell_of_row V _ 3 _ _ _ mB]; rfl, lt_row mB⟩
  have HLI : Hid (0 ≤ f.Slots → f.Slots ≤ 400 → ∀ V : World, Below w.heap.size w V → ∀ (k : Nat) (x : DIns), f.Ins[k]? = some x → Calls Tryd.prog 50 #[.agg #[.slice (some ⟨b, o, none⟩) l0 c0, .slice a1 l1 c1], .agg #[.string f.Name, .int .i64 f.Args, .int .i64 f.Slots, .slice a3 l3 c3], .int .i64 k] V fun e w' => BRes (LiP c f.Slots l3 k x.Op x.N x.S x.To) V e w') := fun s0 s1 V hV k x hx => by
    obtain ⟨b2, o2, rfl, g0, g1, g2, g3⟩ := Ins_at (hrow.later InsR.lasts hV) k x hx
    have wx := wf.2.2.2.2 x (List.mem_of_getElem? hx)
    exact l9Ins_any (some ⟨b, o, none⟩) l0 c0 a1 l1 c1 c f.Name f.Args f.Slots b2 o2 l3 c3 k x.Op x.N x.S x.To V (CodeR.lasts d _ _ _ _ hc hV) hwc hz g0 g1 g2 g3 (by have := (List.getElem?_eq_some_iff.1 hx).1; omega) hfl (by have := wx.2.2.1; unfold maxLen at this; omega) wx.2.1 s0 s1
  have HRW : Hid (∀ V : World, Below w.heap.size w V → RowOf 4 InsR V (.slice a3 l3 c3) f.Ins) := fun V hV => hrow.later InsR.lasts hV
  have HFA : Hid (∀ V : World, Below w.heap.size w V → Calls Tryd.prog 48 #[.agg #[.slice (some ⟨b, o, none⟩) l0 c0, .slice a1 l1 c1], .string f.Name] V fun e w' => e = .returned (.int .i64 (fnIx c.Fns f.Name)) ∧ Below V.heap.size V w') := fun V hV =>
    l9FnAt_any (.slice (some ⟨b, o, none⟩) l0 c0) (.slice a1 l1 c1) c.Fns f.Name V (hF.later FnR.lasts hV) (by have := HLN.out; omega)
  have HL3 : Hid (f.Ins.length = l3) := hl3
  have hC := l4Atom_any f.Name W (by have := wf.1; unfold maxLen at this; omega)
  rw [hW] at hC
  have HW : Hid (W = _) := hW
  have hbl : b < w.heap.size := by have := World.block_lt_of_cell? w _ f0; simpa using this
  clear hc hwc hz hf hF hP el wf hl3 hA nA nB hrow hW
  go_enter Tryd.func33, Tryd.ntmps33
  go_wp2_with fail
  refine hC.mono ?_
  clear hC
  rintro e V ⟨b1, rfl, hb1, hB1⟩
  rw [← HW.out] at hB1
  have HBV : Hid (Below W.heap.size W V ∧ Below w.heap.size w V) := ⟨hB1, HB.out.trans (hB1.mono HB.out.size)⟩
  obtain ⟨x0, x1, y0, y1, y2, y3, hVl⟩ := HBX.out V hB1
  have hVl0 : w.heap.size < V.heap.size := by omega
  clear hB1 HW f0 f1 f2 f3
  cases b1 with
  | false =>
    have HF : Hid (¬ PP) := fun h => by have := hb1.out.2 (HPM.out.1 h).1; cases this
    clear hb1
    go_wp2_with fail
    go_ret
    exact bres_no HF.out HBV.out.2
  | true =>
  have HAT : Hid (AtomP f.Name ∧ ¬ Wrd f.Name) := hb1.out.1 rfl
  have hC := HFA.out V HBV.out.2
  clear hb1
  go_wp2_with fail
  refine hC.mono ?_
  clear hC
  rintro e V2 ⟨rfl, hB2⟩
  have HB2 : Hid (Below W.heap.size W V2 ∧ Below w.heap.size w V2) := ⟨HBV.out.1.trans (hB2.mono HBV.out.1.size), HBV.out.2.trans (hB2.mono HBV.out.2.size)⟩
  clear hB2 x0 x1 y0 y1 y2 y3 hVl hVl0
  obtain ⟨x0, x1, y0, y1, y2, y3, hVl⟩ := HBX.out V2 HB2.out.1
  by_cases hi : fnIx c.Fns f.Name = i
  case neg =>
    have hij : ((fnIx c.Fns f.Name) != (i : Int)) = true := by simpa using hi
    have HF : Hid (¬ PP) := fun h => hi (HPM.out.1 h).2.1
    obtain ⟨ix, hix⟩ : ∃ x, fnIx c.Fns f.Name = x := ⟨_, rfl⟩
    rw [hix] at hij ⊢
    clear hi hix
    go_wp2_with fail
    go_ret
    exact bres_no HF.out HB2.out.2
  rw [hi]
  have hij : ((i : Int) != (i : Int)) = false := by simp
  have HIX : Hid (fnIx c.Fns f.Name = i) := hi
  clear hi
  have hC := in_call f.Args 0 4 V2
  go_wp2_with fail
  refine hC.mono ?_
  clear hC
  rintro e Z ⟨b2, rfl, hb2, hZ⟩
  subst hZ
  cases b2 with
  | false =>
    have HF : Hid (¬ PP) := fun h => by have := hb2.2 (HPM.out.1 h).2.2.1; cases this
    clear hb2
    go_wp2_with fail
    go_ret
    exact bres_no HF.out HB2.out.2
  | true =>
  have HA4 : Hid (0 ≤ f.Args ∧ f.Args ≤ 4) := hb2.1 rfl
  clear hb2
  have hC := in_call f.Slots f.Args 400 V2
  go_wp2_with fail
  refine hC.mono ?_
  clear hC
  rintro e Z ⟨b2, rfl, hb2, hZ⟩
  subst hZ
  cases b2 with
  | false =>
    have HF : Hid (¬ PP) := fun h => by have := hb2.2 (HPM.out.1 h).2.2.2.1; cases this
    clear hb2
    go_wp2_with fail
    go_ret
    exact bres_no HF.out HB2.out.2
  | true =>
  have HS4 : Hid (f.Args ≤ f.Slots ∧ f.Slots ≤ 400) := hb2.1 rfl
  clear hb2
  have hC := in_call (l3 : Int) 1 1500 V2
  go_wp2_with fail
  refine hC.mono ?_
  clear hC
  rintro e Z ⟨b2, rfl, hb2, hZ⟩
  subst hZ
  cases b2 with
  | false =>
    have HF : Hid (¬ PP) := fun h => by
      have h5 := (HPM.out.1 h).2.2.2.2.1
      rw [HL3.out] at h5
      have := hb2.2 ⟨by omega, by omega⟩
      cases this
    clear hb2
    go_wp2_with fail
    go_ret
    exact bres_no HF.out HB2.out.2
  | true =>
  have HN4 : Hid (1 ≤ l3 ∧ l3 ≤ 1500) := by have := hb2.1 rfl; exact ⟨by omega, by omega⟩
  clear hb2
  have hn1 : 1 ≤ l3 := HN4.out.1
  have hn2 : l3 ≤ 1500 := HN4.out.2
  go_wp2_with fail
  go_loopw [6] (fun i wr => ∃ j : Nat, j ≤ l3 ∧ i = .int .i64 j ∧ Hid (Below W.heap.size W wr) ∧ Hid (∀ (k : Nat) (x : DIns), k < j → f.Ins[k]? = some x → LiP c f.Slots l3 k x.Op x.N x.S x.To)) (fun i _ => l3 - (intOf i).toNat)
  case atStart => exact ⟨0, Nat.zero_le _, rfl, HB2.out.1, fun k x hk => by omega⟩
  case round =>
    obtain ⟨j, hj, rfl, HBj, HOJ⟩ := hrel
    have HBW : Hid (Below w.heap.size w wr) := HB.out.trans (HBj.out.mono HB.out.size)
    obtain ⟨u0, u1, v0, v1, v2, v3, hwl⟩ := HBX.out wr HBj.out
    have hwl0 : w.heap.size < wr.heap.size := by omega
    by_cases hjl : j < l3
    · obtain ⟨x, hx⟩ : ∃ x, f.Ins[j]? = some x := ⟨_, List.getElem?_eq_getElem (by have := HL3.out; omega)⟩
      have hjl' : (j : Int) < (l3 : Int) := by omega
      have hC := HLI.out (by have := HS4.out; have := HA4.out; omega) HS4.out.2 wr HBW.out j x hx
      have HX : Hid (f.Ins[j]? = some x) := hx
      clear hx
      go_wp2_with fail
      refine hC.mono ?_
      clear hC
      rintro e w' ⟨b', rfl, hb', hB'⟩
      have HB3 : Hid (Below W.heap.size W w') := HBj.out.trans (hB'.mono HBj.out.size)
      have HB4 : Hid (Below w.heap.size w w') := HBW.out.trans (hB'.mono HBW.out.size)
      clear hB' u0 u1 v0 v1 v2 v3
      cases b' with
      | false =>
        have HF : Hid (¬ PP) := fun h => by
          have h6 := (HPM.out.1 h).2.2.2.2.2.1 j x HX.out
          rw [HL3.out] at h6
          have := hb'.2 h6
          cases this
        clear hb'
        go_wp2_with fail
        go_ret
        exact bres_no HF.out HB4.out
      | true =>
        have HN : Hid (∀ (k : Nat) (x : DIns), k < j + 1 → f.Ins[k]? = some x → LiP c f.Slots l3 k x.Op x.N x.S x.To) := fun k y hk hy => by
          rcases Nat.lt_or_ge k j with q | q
          · exact HOJ.out k y q hy
          · obtain rfl : k = j := by omega
            rw [HX.out] at hy
            cases hy
            exact hb'.1 rfl
        clear hb' HOJ
        go_wp2_with fail
        go_roundw
        case rel => exact ⟨j + 1, by omega, by go_num, HB3, HN⟩
        case measure => simp [intOf]; omega
    · obtain rfl : j = l3 := by omega
      have hjl' : decide ((j : Int) < (j : Int)) = false := by simp
      have HALL : Hid (∀ (k : Nat) (x : DIns), f.Ins[k]? = some x → LiP c f.Slots j k x.Op x.N x.S x.To) := fun k x hx => HOJ.out k x (by have := (List.getElem?_eq_some_iff.1 hx).1; have := HL3.out; omega) hx
      have hC := l9Heights_any f.Ins f.Name f.Args f.Slots a3 j c3 wr (HRW.out wr HBW.out) HL3.out hn1 hn2 (fun x hx => by
        obtain ⟨k, hk, e⟩ := List.getElem_of_mem hx
        exact (HALL.out k x (by rw [List.getElem?_eq_getElem hk, e])).1.op) ((ToP_iff _ _ _).2 fun k x hx ho => by rw [Nat.zero_add]; exact (HALL.out k x hx).2 ho)
      clear HOJ
      go_wp2_with fail
      refine hC.mono ?_
      clear hC
      rintro e w' ⟨v, b', rfl, hb', _, hB'⟩
      have HB3 : Hid (Below W.heap.size W w') := HBj.out.trans (hB'.mono HBj.out.size)
      have HB4 : Hid (Below w.heap.size w w') := HBW.out.trans (hB'.mono HBW.out.size)
      clear hB' u0 u1 v0 v1 v2 v3 hwl hwl0
      obtain ⟨u0, u1, v0, v1, v2, v3, hwl⟩ := HBX.out w' HB3.out
      obtain ⟨x, hx⟩ : ∃ x, f.Ins[j - 1]? = some x := ⟨_, List.getElem?_eq_getElem (by have := HL3.out; omega)⟩
      have HLA : Hid (f.Ins.getLast? = some x) := by show _ = _; rw [List.getLast?_eq_getElem?, HL3.out]; exact hx
      obtain ⟨b2, o2, rfl, g0, g1, g2, g3⟩ := Ins_at (HRW.out w' HB4.out) (j - 1) x hx
      have hj1 : ((j : Int) - 1) = ((j - 1 : Nat) : Int) := by omega
      have HGO : Hid (b' = true → (x.Op = 12 ∨ x.Op = 11) → PP) := fun h1 h2 => HPM.out.2 ⟨HAT.out, HIX.out, HA4.out, HS4.out, by rw [HL3.out]; exact HN4.out, by rw [HL3.out]; exact HALL.out, by rw [HL3.out]; exact hb'.1 h1, fun y hy => by rw [HLA.out] at hy; cases hy; exact h2⟩
      have HNO : Hid (PP → b' = true ∧ (x.Op = 12 ∨ x.Op = 11)) := fun h => by
        obtain ⟨_, _, _, _, _, _, h7, h8⟩ := HPM.out.1 h
        rw [HL3.out] at h7
        exact ⟨hb'.2 h7, h8 x HLA.out⟩
      clear hx hb' HLA
      have hjm : j - 1 < j := by omega
      have hjm' : ((j - 1 : Nat) : Int) < (j : Int) := by omega
      obtain ⟨m, hm⟩ : ∃ m, j - 1 = m := ⟨_, rfl⟩
      rw [hm] at g0 g1 g2 g3 hj1 hjm hjm'
      clear hm
      cases b' with
      | false =>
        have HF : Hid (¬ PP) := fun h => by have := (HNO.out h).1; cases this
        clear g1 g2 g3
        go_wp2_with fail
        go_ret
        exact bres_no HF.out HB4.out
      | true =>
        by_cases h12 : x.Op = 12
        · have q12 : (x.Op == 12) = true := by simp [h12]
          have HF : Hid PP := HGO.out rfl (.inl h12)
          clear g1 g2 g3 h12
          go_wp2_with fail
          go_ret
          exact bres_yes HF.out HB4.out
        · have q12 : (x.Op == 12) = false := by simp [h12]
          by_cases h11 : x.Op = 11
          · have q11 : (x.Op == 11) = true := by simp [h11]
            have HF : Hid PP := HGO.out rfl (.inr h11)
            clear g1 g2 g3 h12 h11
            go_wp2_with fail
            go_ret
            exact bres_yes HF.out HB4.out
          · have q11 : (x.Op == 11) = false := by simp [h11]
            have HF : Hid (¬ PP) := fun h => by rcases (HNO.out h).2 with q | q; exact h12 q; exact h11 q
            clear g1 g2 g3 h12 h11
            go_wp2_with fail
            go_ret
            exact bres_no HF.out HB4.out

set_option maxRecDepth 100000 in
set_option maxHeartbeats 4000000 in
theorem specCodeOk_any (d : Nat) (vs : List Value) (c : DCode d) (w : World) (hc : CodeR d w vs c) (hwc : WfCode d c) (hz : szCodeD d c ≤ 1048576) :
    Calls Tryd.prog 15 #[.agg vs.toArray] w fun e w' => BRes (pCodeOk d c) w e w' := by
  obtain ⟨a0, l0, c0, a1, l1, c1, rfl⟩ := CodeR.shape _ _ _ _ hc
  obtain ⟨PP, hPP⟩ : ∃ P : Prop, pCodeOk d c = P := ⟨_, rfl⟩
  have HPP : Hid (pCodeOk d c = PP) := hPP
  rw [hPP]
  clear hPP
  obtain ⟨W, hW⟩ : ∃ W, W = w.alloc (.cells #[.slice a0 l0 c0, .slice a1 l1 c1] 32) := ⟨_, rfl⟩
  have hA : Below w.heap.size w W := by rw [hW]; exact (Below.refl _ _).alloc (Nat.le_refl _) _
  have nA : W.heap[w.heap.size]? = some (.cells #[.slice a0 l0 c0, .slice a1 l1 c1] 32 (0, 0)) := by rw [hW]; exact heap_alloc_new w _
  have HB : Hid (Below w.heap.size w W) := hA
  have HBX : Hid (∀ V : World, Below W.heap.size W V → V.cell? ⟨w.heap.size, 0, none⟩ = some (.slice a0 l0 c0) ∧ V.cell? ⟨w.heap.size, 1, none⟩ = some (.slice a1 l1 c1) ∧ w.heap.size < V.heap.size) := fun V hV => by
    have mA := (hV.block _ (lt_row nA)).trans nA
    exact ⟨by rw [cell_of_row V _ 0 _ _ _ mA]; rfl, by rw [cell_of_row V _ 1 _ _ _ mA]; rfl, lt_row mA⟩
  obtain ⟨x0, x1, hWl⟩ := HBX.out W (Below.refl _ _)
  have hcc := hc
  obtain ⟨w0, w1, e0, hF, hP⟩ := hcc
  simp only [List.cons.injEq, and_true] at e0
  obtain ⟨rfl, rfl⟩ := e0
  obtain ⟨aa, cc, ee⟩ := hF.slice
  simp only [Value.slice.injEq] at ee
  obtain ⟨-, el, -⟩ := ee
  obtain ⟨aa, cc, ee⟩ := hP.slice
  simp only [Value.slice.injEq] at ee
  obtain ⟨-, el1, -⟩ := ee
  have HLN : Hid (c.Fns.length = l0 ∧ l0 ≤ 1048576 ∧ c.Pats.length = l1 ∧ l1 ≤ 1048576) := ⟨el.symm, by have := szRow_len szFnD c.Fns; unfold szCodeD at hz; omega, el1.symm, by have := szRow_len (szPatD d) c.Pats; unfold szCodeD at hz; omega⟩
  have HFF : Hid (∀ V : World, Below w.heap.size w V → ∀ (i : Nat) (f : DFn), c.Fns[i]? = some f → Calls Tryd.prog 33 #[.agg #[.slice a0 l0 c0, .slice a1 l1 c1], .int .i64 i] V fun e w' => BRes (FnP c i f) V e w') := fun V hV i f hf =>
    l9FnOk_any a0 l0 c0 a1 l1 c1 c i f V (CodeR.lasts d _ _ _ _ hc hV) hwc hz hf
  have hl0 : l0 ≤ 1048576 := HLN.out.2.1
  have hl1 : l1 ≤ 1048576 := HLN.out.2.2.2
  clear hc hwc hz hF hP el el1 nA hA
  by_cases k0 : 12 < l0
  · have HF : Hid (¬ PP) := by rw [← HPP.out]; exact fun h => by have := h.1; have := HLN.out; omega
    have k0' : 12 < (l0 : Int) := by omega
    rw [hW] at HB
    go_enter Tryd.func15, Tryd.ntmps15
    go_wp2_with fail
    go_ret
    exact bres_no HF.out HB.out
  have k0' : decide (12 < (l0 : Int)) = false := by simp; omega
  by_cases k1 : 2000 < l1
  · have HF : Hid (¬ PP) := by rw [← HPP.out]; exact fun h => by have := h.2.1; have := HLN.out; omega
    have k1' : 2000 < (l1 : Int) := by omega
    rw [hW] at HB
    go_enter Tryd.func15, Tryd.ntmps15
    go_wp2_with fail
    go_ret
    exact bres_no HF.out HB.out
  have k1' : decide (2000 < (l1 : Int)) = false := by simp; omega
  have HKS : Hid (c.Fns.length ≤ 12 ∧ c.Pats.length ≤ 2000) := ⟨by have := HLN.out; omega, by have := HLN.out; omega⟩
  go_enter Tryd.func15, Tryd.ntmps15
  go_wp2_with fail
  rw [← hW]
  clear hW k0 k1 k0' k1'
  go_loopw [3] (fun i wr => ∃ j : Nat, j ≤ l0 ∧ i = .int .i64 j ∧ Hid (Below W.heap.size W wr) ∧ Hid (∀ (i : Nat) (f : DFn), i < j → c.Fns[i]? = some f → FnP c i f)) (fun i _ => l0 - (intOf i).toNat)
  case atStart => exact ⟨0, Nat.zero_le _, rfl, Below.refl _ _, fun i f hi => by omega⟩
  case round =>
    obtain ⟨j, hj, rfl, HBj, HOJ⟩ := hrel
    have HBW : Hid (Below w.heap.size w wr) := HB.out.trans (HBj.out.mono HB.out.size)
    obtain ⟨u0, u1, hwl⟩ := HBX.out wr HBj.out
    by_cases hjl : j < l0
    · obtain ⟨f, hf⟩ : ∃ x, c.Fns[j]? = some x := ⟨_, List.getElem?_eq_getElem (by have := HLN.out; omega)⟩
      have hjl' : (j : Int) < (l0 : Int) := by omega
      have HX : Hid (c.Fns[j]? = some f) := hf
      have hC := HFF.out wr HBW.out j f hf
      clear hf
      go_wp2_with fail
      refine hC.mono ?_
      clear hC
      rintro e V2 ⟨b', rfl, hb', hB2⟩
      have HB2 : Hid (Below W.heap.size W V2 ∧ Below w.heap.size w V2) := ⟨HBj.out.trans (hB2.mono HBj.out.size), HBW.out.trans (hB2.mono HBW.out.size)⟩
      clear hB2 u0 u1
      cases b' with
      | false =>
        have HF : Hid (¬ PP) := by rw [← HPP.out]; exact fun h => by have := hb'.2 (h.2.2 j f HX.out); cases this
        clear hb'
        go_wp2_with fail
        go_ret
        exact bres_no HF.out HB2.out.2
      | true =>
        have HN : Hid (∀ (i : Nat) (f : DFn), i < j + 1 → c.Fns[i]? = some f → FnP c i f) := fun i y hi hy => by
          rcases Nat.lt_or_ge i j with q | q
          · exact HOJ.out i y q hy
          · obtain rfl : i = j := by omega
            rw [HX.out] at hy
            cases hy
            exact hb'.1 rfl
        have HB4 : Hid (Below W.heap.size W V2) := HB2.out.1
        clear hb' HOJ
        go_wp2_with fail
        go_roundw
        case rel => exact ⟨j + 1, by omega, by go_num, HB4, HN⟩
        case measure => simp [intOf]; omega
    · obtain rfl : j = l0 := by omega
      have hjl' : decide ((j : Int) < (j : Int)) = false := by simp
      have HF : Hid PP := by rw [← HPP.out]; exact ⟨HKS.out.1, HKS.out.2, fun i f hf => HOJ.out i f (by have := (List.getElem?_eq_some_iff.1 hf).1; have := HLN.out; omega) hf⟩
      clear HOJ
      go_wp2_with fail
      go_ret
      exact bres_yes HF.out HBW.out

end Go.Proofs.YtfachfimdenapaaDoor
