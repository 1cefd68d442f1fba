/- The law's own marks on lists of Fn. -/
import Derived.Test.YtfachfimdenapaaDoorMarkTM
import Derived.Test.YtfachfimdenapaaDoorDtFnM
import Derived.Test.YtfachfimdenapaaDoorMkInsM
namespace Go.Proofs.YtfachfimdenapaaDoor
open Go.RowKit
set_option linter.unusedVariables false

def ckFn (x : DFn) : Nat := 1 + (1 + (1 + ((x.Ins.map ckIns).sum)))
def mkFn (q : Int) (x : DFn) : DFn := ⟨mt (q), q + 1, q + 1 + 1, (mkL mkIns ckIns (q + 1 + 1 + 1) x.Ins)⟩

theorem ck_pos_Fn (x : DFn) : 1 ≤ ckFn x := by unfold ckFn; omega

set_option maxHeartbeats 8000000 in
set_option maxRecDepth 100000 in
theorem markFnS_any : MkLs 29 4 45 FnO mkFn ckFn := by
  intro v xs fp q w hown hnd hlt h0 h1 hm
  rcases hown with ⟨rfl, rfl, a, c, rfl⟩ | ⟨g, c, cur0, fps, rfl, hh0, ⟨hfl, hcap⟩, rfl, hel⟩
  · go_enter Tryd.func29, Tryd.ntmps29
    go_wp2
    refine wp_loop_rounds 1 ?_
    rw [rounds_succ]
    go_wp2
    go_ret
    exact ⟨tret1 (by simp), .inl ⟨rfl, rfl, a, c, rfl⟩, Wrote.refl _ _⟩
  · have H0 : Hid (OwnRow 4 45 FnO w (.slice (some ⟨g, 0, none⟩) xs.length c) (mixL mkFn ckFn q xs 0) (g :: fps.flatten)) := by
      rw [mixL_zero]
      exact .inr ⟨g, c, cur0, fps, rfl, hh0, ⟨hfl, hcap⟩, rfl, hel⟩
    have HND : Hid ((g :: fps.flatten).Nodup) := hnd
    have HLT : Hid (∀ y ∈ (g :: fps.flatten), y < w.heap.size) := hlt
    have HBB : Hid (q + ((xs.map ckFn).sum : Nat) ≤ 1099511627776) := h1
    obtain ⟨fp, hfp⟩ : ∃ f, g :: fps.flatten = f := ⟨_, rfl⟩
    rw [hfp] at HND HLT H0
    obtain ⟨len, hl⟩ : ∃ len, xs.length = len := ⟨_, rfl⟩
    have HL : Hid (xs.length = len) := hl
    rw [hl] at hm H0 ⊢
    have HGOAL : Hid (∀ (e : Ending) (w' : World), (e = .returned (.int .i64 (q + ((xs.map ckFn).sum : Nat))) ∧ OwnRow 4 45 FnO w' (.slice (some ⟨g, 0, none⟩) len c) (mkL mkFn ckFn q xs) fp ∧ Wrote fp w w') → (e = .returned (.int .i64 (q + ((xs.map ckFn).sum : Nat))) ∧ OwnRow 4 45 FnO w' (.slice (some ⟨g, 0, none⟩) len c) (mkL mkFn ckFn q xs) (g :: fps.flatten) ∧ Wrote (g :: fps.flatten) w w')) := fun e w' h => by rw [hfp]; exact h
    skip
    clear hel hl hnd hfl h1 hcap hh0 hlt hfp
    go_enter Tryd.func29, Tryd.ntmps29
    go_wp2_with fail
    go_loopw [1, 5] (fun x i wr => ∃ (j : Nat) (y : Int), j ≤ len ∧ i = .int .i64 j ∧ x = .int .i64 y ∧ Hid (y = q + (sumP ckFn xs j : Nat)) ∧ 0 ≤ y ∧ y ≤ 1099511627776 ∧ Hid (OwnRow 4 45 FnO wr (.slice (some ⟨g, 0, none⟩) len c) (mixL mkFn ckFn q xs j) fp ∧ Wrote fp w wr)) (fun _ i _ => len - (intOf i).toNat)
    case atStart => exact ⟨0, q, Nat.zero_le _, rfl, rfl, (by show _ = _; rw [sumP_zero']; omega), h0, (by have := HBB.out; omega), H0.out, Wrote.refl _ _⟩
    case round =>
      obtain ⟨j, y, hj, rfl, rfl, HY, hy0, hy1, HS⟩ := hrel
      clear H0
      by_cases hjl : j < len
      · obtain ⟨x, hx⟩ : ∃ x, xs[j]? = some x := ⟨_, List.getElem?_eq_getElem (by rw [HL.out]; exact hjl)⟩
        have HLT2 : Hid (∀ z ∈ fp, z < wr.heap.size) := fun z hz => Nat.lt_of_lt_of_le (HLT.out z hz) HS.out.2.size
        have HX : Hid (xs[j]? = some x) := hx
        obtain ⟨cur, vs, f, hh, hE, hO, ⟨hf1, hf2, hf3, hf4, hf5⟩, hclose⟩ := own_mark FnO.lasts (by omega) HS.out.1 HND.out HLT2.out (by rw [mixL_at _ _ _ _ _ _ (Nat.le_refl _)]; exact hx)
        obtain ⟨v3, of3, rfl, efp, oh3⟩ := hO
        obtain ⟨a3, l3, c3, rfl⟩ := oh3.sl
        subst efp
        have hjl' : (j : Int) < (len : Int) := by omega
        have hst := sumP_succ ckFn xs j x hx
        have hle := sumP_le ckFn xs (j + 1)
        obtain ⟨A3, hA3⟩ : ∃ A, (x.Ins.map ckIns).sum = A := ⟨_, rfl⟩
        have HA3 : Hid ((x.Ins.map ckIns).sum = A3) := hA3
        have hck : ckFn x = 1 + (1 + (1 + (A3))) := by rw [← hA3]; rfl
        have hbd : y + (1 + (1 + (1 + (A3))) : Nat) ≤ 1099511627776 := by have := HY.out; have := HBB.out; omega
        have HNX : Hid (y + (1 + (1 + (1 + (A3))) : Nat) = q + (sumP ckFn xs (j + 1) : Nat)) := by have := HY.out; show _ = _; omega
        have HN3 : Hid (f.Nodup ∧ g ∉ f ∧ (∀ z ∈ f, z < wr.heap.size) ∧ (∀ z ∈ f, z ∈ g :: (f))) := ⟨hf1, fun hz => hf2 (hz), fun z hz => hf3 z (hz), fun z hz => List.mem_cons_of_mem _ (hz)⟩
        have HFP : Hid (∀ z ∈ g :: (f), z ∈ fp) := fun z hz => by rcases List.mem_cons.1 hz with rfl | hz; exact hf5; exact hf4 z hz
        have HC : Hid _ := hclose
        have HR_wr : Hid (wr.heap[g]? = some (.cells cur 45 (0, 0))) := hh
        have HE_wr : Hid (ElC cur cur j 4 [.string x.Name, .int .i64 x.Args, .int .i64 x.Slots, .slice a3 l3 c3]) := hE
        have HO3_wr : Hid (OwnRow 4 48 InsO wr (.slice a3 l3 c3) x.Ins f) := oh3
        have HW_wr : Hid (Wrote (g :: (f)) wr wr) := Wrote.refl _ _
        clear hh hE hclose hf1 hf2 hf3 hf4 hf5 hst hle hck hx oh3 hA3
        have hC := markText_any (y) wr (by omega) (by omega)
        go_wp2_with fail
        refine hC.mono ?_
        clear hC 
        rintro e U1 ⟨rfl, hB⟩
        obtain ⟨qU1, HR_U1, HE_U1⟩ : ∃ cc, Hid (U1.heap[g]? = some (.cells cc 45 (0, 0))) ∧ Hid (ElC cur cc j 4 [.string x.Name, .int .i64 x.Args, .int .i64 x.Slots, .slice a3 l3 c3]) := ⟨_, (hB.block _ (lt_row HR_wr.out)).trans HR_wr.out, HE_wr.out⟩
        have HO3_U1 : Hid (OwnRow 4 48 InsO U1 (.slice a3 l3 c3) x.Ins f) := HO3_wr.out.frame InsO.lasts fun z hz => hB.block z (Nat.lt_of_lt_of_le (HN3.out.2.2.1 z hz) HW_wr.out.size)
        have HW_U1 : Hid (Wrote (g :: (f)) wr U1) := HW_wr.out.trans (Wrote.of_below hB)
        clear hB
        have s0 : U1.cell? ⟨g, j * 4, none⟩ = some (.string x.Name) := by have := HE_U1.out.read (m := 0) HR_U1.out rfl; rw [Nat.add_zero] at this; exact this
        have z0 : U1.frozen? ⟨g, j * 4, none⟩ = false := frozen_of_row U1 _ _ _ _ HR_U1.out
        have s1 : U1.cell? ⟨g, j * 4 + 1, none⟩ = some (.int .i64 x.Args) := HE_U1.out.read (m := 1) HR_U1.out rfl
        have z1 : U1.frozen? ⟨g, j * 4 + 1, none⟩ = false := frozen_of_row U1 _ _ _ _ HR_U1.out
        have s2 : U1.cell? ⟨g, j * 4 + 2, none⟩ = some (.int .i64 x.Slots) := HE_U1.out.read (m := 2) HR_U1.out rfl
        have z2 : U1.frozen? ⟨g, j * 4 + 2, none⟩ = false := frozen_of_row U1 _ _ _ _ HR_U1.out
        have ld3 : U1.cell? ⟨g, j * 4 + 3, none⟩ = some (.slice a3 l3 c3) := HE_U1.out.read (m := 3) HR_U1.out rfl
        obtain ⟨S2, hS2⟩ : ∃ S, S = ((U1.setCell ⟨g, j * 4, none⟩ (.string (mt (y)))).setCell ⟨g, j * 4 + 1, none⟩ (.int .i64 (y + 1))).setCell ⟨g, j * 4 + 2, none⟩ (.int .i64 (y + 1 + 1)) := ⟨_, rfl⟩
        have hS2' : S2 = setL U1 g (j * 4 + 0) [.string (mt (y)), .int .i64 (y + 1), .int .i64 (y + 1 + 1)] := hS2
        obtain ⟨qS2, HR_S2, HE_S2⟩ : ∃ cc, Hid (S2.heap[g]? = some (.cells cc 45 (0, 0))) ∧ Hid (ElC cur cc j 4 [.string (mt (y)), .int .i64 (y + 1), .int .i64 (y + 1 + 1), .slice a3 l3 c3]) := ⟨_, (by show S2.heap[g]? = _; rw [hS2']; exact setL_row _ _ _ _ _ _ HR_U1.out), HE_U1.out.put (m := 0) (vs := [.string (mt (y)), .int .i64 (y + 1), .int .i64 (y + 1 + 1)]) (by simp) rfl⟩
        have hkS2 : ∀ z, z ≠ g → S2.heap[z]? = U1.heap[z]? := fun z hz => by rw [hS2']; exact setL_other _ _ _ _ _ hz
        have HO3_S2 : Hid (OwnRow 4 48 InsO S2 (.slice a3 l3 c3) x.Ins f) := HO3_U1.out.frame InsO.lasts fun z hz => hkS2 z (fun e => HN3.out.2.1 (e ▸ hz))
        have HW_S2 : Hid (Wrote (g :: (f)) wr S2) := HW_U1.out.trans (by rw [hS2']; exact (setL_wrote _ _ _ _).mono fun z hz => by obtain rfl := List.mem_singleton.1 hz; exact List.mem_cons_self ..)
        have hC := markInsS_any (.slice a3 l3 c3) x.Ins f (y + 1 + 1 + 1) S2 HO3_S2.out HN3.out.1 (fun z hz => Nat.lt_of_lt_of_le (HN3.out.2.2.1 z hz) HW_S2.out.size) (by omega) (by have := HA3.out; omega) (len_of_ck HA3.out (ck_pos_Ins) (by omega))
        obtain ⟨y3, hy3⟩ : ∃ z : Int, y + 1 + 1 + 1 + (((x.Ins.map ckIns).sum : Nat) : Int) = z := ⟨_, rfl⟩
        have HY3 : Hid (y + 1 + 1 + 1 + (((x.Ins.map ckIns).sum : Nat) : Int) = y3) := hy3
        have hq3 : y + 1 + 1 + 1 + (A3 : Nat) = y3 := by have := HA3.out; omega
        rw [hy3] at hC
        clear hy3
        have hqb3 : 0 ≤ y3 := by omega
        have HQ3 : Hid (y + 1 + 1 + 1 + (A3 : Nat) = y3) := hq3
        have hbd3 : y3 + (0 : Nat) ≤ 1099511627776 := by omega
        have HNX3 : Hid (y3 + (0 : Nat) = q + (sumP ckFn xs (j + 1) : Nat)) := by have := HNX.out; show _ = _; omega
        clear hq3
        rw [hS2] at hC
        have HS_S2 : Hid (S2 = _) := hS2
        clear hS2 hS2' hkS2
        go_wp2_with fail
        refine hC.mono ?_
        clear hC s0 z0 s1 z1 s2 z2 ld3
        rintro e U2 ⟨rfl, hOw, hW⟩
        rw [← HS_S2.out] at hW
        obtain ⟨qU2, HR_U2, HE_U2⟩ : ∃ cc, Hid (U2.heap[g]? = some (.cells cc 45 (0, 0))) ∧ Hid (ElC cur cc j 4 [.string (mt (y)), .int .i64 (y + 1), .int .i64 (y + 1 + 1), .slice a3 l3 c3]) := ⟨_, (hW.block _ (lt_row HR_S2.out) HN3.out.2.1).trans HR_S2.out, HE_S2.out⟩
        have HO3_U2 : Hid (OwnRow 4 48 InsO U2 (.slice a3 l3 c3) (mkL mkIns ckIns (y + 1 + 1 + 1) x.Ins) f) := hOw
        have HW_U2 : Hid (Wrote (g :: (f)) wr U2) := HW_S2.out.trans (hW.mono HN3.out.2.2.2)
        clear hW hOw
        have HEND : Hid (y3 = q + (sumP ckFn xs (j + 1) : Nat) ∧ y3 ≤ 1099511627776) := by have := HNX3.out; show _ ∧ _; omega
        have HOX : Hid (FnO U2 [.string (mt (y)), .int .i64 (y + 1), .int .i64 (y + 1 + 1), .slice a3 l3 c3] (mkFn y x) (f)) := by
          have e3 := HY3.out
          subst e3
          exact ⟨_, _, rfl, rfl, HO3_U2.out⟩
        have HFIN : Hid (OwnRow 4 45 FnO U2 (.slice (some ⟨g, 0, none⟩) len c) (mixL mkFn ckFn q xs (j + 1)) fp ∧ Wrote fp w U2) := by
          have h3 := HC.out U2 _ [.string (mt (y)), .int .i64 (y + 1), .int .i64 (y + 1 + 1), .slice a3 l3 c3] (mkFn y x) HR_U2.out HE_U2.out HOX.out HW_U2.out
          rw [HY.out, mixL_set _ _ _ _ _ _ HX.out] at h3
          exact ⟨h3, HS.out.2.trans (HW_U2.out.mono HFP.out)⟩
        clear HOX HC HR_U2 HE_U2 HW_U2 HO3_U2
        go_wp2_with fail
        go_roundw
        case rel => exact ⟨j + 1, y3, by omega, by go_num, by go_num, HEND.out.1, by omega, HEND.out.2, HFIN⟩
        case measure => simp [intOf]; omega
      · have hjn : xs.length ≤ j := by have := HL.out; omega
        have HF : Hid (y = q + ((xs.map ckFn).sum : Nat)) := by
          show _ = _
          rw [HY.out]
          have : sumP ckFn xs j = (xs.map ckFn).sum := by unfold sumP; rw [List.take_of_length_le hjn]
          rw [this]
        have HO : Hid (OwnRow 4 45 FnO wr (.slice (some ⟨g, 0, none⟩) len c) (mkL mkFn ckFn q xs) fp ∧ Wrote fp w wr) := by
          have := HS.out
          rw [mixL_all _ _ _ _ _ hjn] at this
          exact this
        clear HS
        go_wp2_with fail
        go_ret
        exact HGOAL.out _ _ ⟨tret1 HF.out, HO.out.1, HO.out.2⟩

end Go.Proofs.YtfachfimdenapaaDoor

/- What the law reads of its marks on lists of Fn. -/
namespace Go.Proofs.YtfachfimdenapaaDoor
open Go.RowKit
set_option linter.unusedVariables false

end Go.Proofs.YtfachfimdenapaaDoor
