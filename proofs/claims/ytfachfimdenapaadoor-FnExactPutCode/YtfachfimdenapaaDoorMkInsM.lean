/- The law's own marks on lists of Ins. -/
import Derived.Test.YtfachfimdenapaaDoorMarkTM
import Derived.Test.YtfachfimdenapaaDoorDtInsM
namespace Go.Proofs.YtfachfimdenapaaDoor
open Go.RowKit
set_option linter.unusedVariables false

def ckIns (x : DIns) : Nat := 1 + (1 + (1 + (1)))
def mkIns (q : Int) (x : DIns) : DIns := ⟨q, q + 1, mt (q + 1 + 1), q + 1 + 1 + 1⟩

theorem ck_pos_Ins (x : DIns) : 1 ≤ ckIns x := by unfold ckIns; omega

set_option maxHeartbeats 8000000 in
set_option maxRecDepth 100000 in
theorem markInsS_any : MkLs 45 4 48 InsO mkIns ckIns := by
  intro v xs fp q w hown hnd hlt h0 h1 hm
  rcases hown with ⟨rfl, rfl, a, c, rfl⟩ | ⟨g, c, cur0, fps, rfl, hh0, ⟨hfl, hcap⟩, rfl, hel⟩
  · go_enter Tryd.func45, Tryd.ntmps45
    go_wp2
    refine wp_loop_rounds 1 ?_
    rw [rounds_succ]
    go_wp2
    go_ret
    exact ⟨tret1 (by simp), .inl ⟨rfl, rfl, a, c, rfl⟩, Wrote.refl _ _⟩
  · have H0 : Hid (OwnRow 4 48 InsO w (.slice (some ⟨g, 0, none⟩) xs.length c) (mixL mkIns ckIns q xs 0) (g :: fps.flatten)) := by
      rw [mixL_zero]
      exact .inr ⟨g, c, cur0, fps, rfl, hh0, ⟨hfl, hcap⟩, rfl, hel⟩
    have HND : Hid ((g :: fps.flatten).Nodup) := hnd
    have HLT : Hid (∀ y ∈ (g :: fps.flatten), y < w.heap.size) := hlt
    have HBB : Hid (q + ((xs.map ckIns).sum : Nat) ≤ 1099511627776) := h1
    obtain ⟨fp, hfp⟩ : ∃ f, g :: fps.flatten = f := ⟨_, rfl⟩
    rw [hfp] at HND HLT H0
    obtain ⟨len, hl⟩ : ∃ len, xs.length = len := ⟨_, rfl⟩
    have HL : Hid (xs.length = len) := hl
    rw [hl] at hm H0 ⊢
    have HGOAL : Hid (∀ (e : Ending) (w' : World), (e = .returned (.int .i64 (q + ((xs.map ckIns).sum : Nat))) ∧ OwnRow 4 48 InsO w' (.slice (some ⟨g, 0, none⟩) len c) (mkL mkIns ckIns q xs) fp ∧ Wrote fp w w') → (e = .returned (.int .i64 (q + ((xs.map ckIns).sum : Nat))) ∧ OwnRow 4 48 InsO w' (.slice (some ⟨g, 0, none⟩) len c) (mkL mkIns ckIns q xs) (g :: fps.flatten) ∧ Wrote (g :: fps.flatten) w w')) := fun e w' h => by rw [hfp]; exact h
    skip
    clear hel hl hnd hfl h1 hcap hh0 hlt hfp
    go_enter Tryd.func45, Tryd.ntmps45
    go_wp2_with fail
    go_loopw [1, 5] (fun x i wr => ∃ (j : Nat) (y : Int), j ≤ len ∧ i = .int .i64 j ∧ x = .int .i64 y ∧ Hid (y = q + (sumP ckIns xs j : Nat)) ∧ 0 ≤ y ∧ y ≤ 1099511627776 ∧ Hid (OwnRow 4 48 InsO wr (.slice (some ⟨g, 0, none⟩) len c) (mixL mkIns ckIns q xs j) fp ∧ Wrote fp w wr)) (fun _ i _ => len - (intOf i).toNat)
    case atStart => exact ⟨0, q, Nat.zero_le _, rfl, rfl, (by show _ = _; rw [sumP_zero']; omega), h0, (by have := HBB.out; omega), H0.out, Wrote.refl _ _⟩
    case round =>
      obtain ⟨j, y, hj, rfl, rfl, HY, hy0, hy1, HS⟩ := hrel
      clear H0
      by_cases hjl : j < len
      · obtain ⟨x, hx⟩ : ∃ x, xs[j]? = some x := ⟨_, List.getElem?_eq_getElem (by rw [HL.out]; exact hjl)⟩
        have HLT2 : Hid (∀ z ∈ fp, z < wr.heap.size) := fun z hz => Nat.lt_of_lt_of_le (HLT.out z hz) HS.out.2.size
        have HX : Hid (xs[j]? = some x) := hx
        obtain ⟨cur, vs, f, hh, hE, hO, ⟨hf1, hf2, hf3, hf4, hf5⟩, hclose⟩ := own_mark InsO.lasts (by omega) HS.out.1 HND.out HLT2.out (by rw [mixL_at _ _ _ _ _ _ (Nat.le_refl _)]; exact hx)
        obtain ⟨rfl, efp⟩ := hO
        subst efp
        have hjl' : (j : Int) < (len : Int) := by omega
        have hst := sumP_succ ckIns xs j x hx
        have hle := sumP_le ckIns xs (j + 1)
        have hck : ckIns x = 1 + (1 + (1 + (1))) := by rfl
        have hbd : y + (1 + (1 + (1 + (1))) : Nat) ≤ 1099511627776 := by have := HY.out; have := HBB.out; omega
        have HNX : Hid (y + (1 + (1 + (1 + (1))) : Nat) = q + (sumP ckIns xs (j + 1) : Nat)) := by have := HY.out; show _ = _; omega
        have HFP : Hid (∀ z ∈ g :: ([]), z ∈ fp) := fun z hz => by rcases List.mem_cons.1 hz with rfl | hz; exact hf5; exact hf4 z hz
        have HC : Hid _ := hclose
        have HR_wr : Hid (wr.heap[g]? = some (.cells cur 48 (0, 0))) := hh
        have HE_wr : Hid (ElC cur cur j 4 [.int .i64 x.Op, .int .i64 x.N, .string x.S, .int .i64 x.To]) := hE
        have HW_wr : Hid (Wrote (g :: ([])) wr wr) := Wrote.refl _ _
        clear hh hE hclose hf1 hf2 hf3 hf4 hf5 hst hle hck hx  
        have s0 : wr.cell? ⟨g, j * 4, none⟩ = some (.int .i64 x.Op) := by have := HE_wr.out.read (m := 0) HR_wr.out rfl; rw [Nat.add_zero] at this; exact this
        have z0 : wr.frozen? ⟨g, j * 4, none⟩ = false := frozen_of_row wr _ _ _ _ HR_wr.out
        have s1 : wr.cell? ⟨g, j * 4 + 1, none⟩ = some (.int .i64 x.N) := HE_wr.out.read (m := 1) HR_wr.out rfl
        have z1 : wr.frozen? ⟨g, j * 4 + 1, none⟩ = false := frozen_of_row wr _ _ _ _ HR_wr.out
        obtain ⟨S1, hS1⟩ : ∃ S, S = (wr.setCell ⟨g, j * 4, none⟩ (.int .i64 (y))).setCell ⟨g, j * 4 + 1, none⟩ (.int .i64 (y + 1)) := ⟨_, rfl⟩
        have hS1' : S1 = setL wr g (j * 4 + 0) [.int .i64 (y), .int .i64 (y + 1)] := hS1
        obtain ⟨qS1, HR_S1, HE_S1⟩ : ∃ cc, Hid (S1.heap[g]? = some (.cells cc 48 (0, 0))) ∧ Hid (ElC cur cc j 4 [.int .i64 (y), .int .i64 (y + 1), .string x.S, .int .i64 x.To]) := ⟨_, (by show S1.heap[g]? = _; rw [hS1']; exact setL_row _ _ _ _ _ _ HR_wr.out), HE_wr.out.put (m := 0) (vs := [.int .i64 (y), .int .i64 (y + 1)]) (by simp) rfl⟩
        have hkS1 : ∀ z, z ≠ g → S1.heap[z]? = wr.heap[z]? := fun z hz => by rw [hS1']; exact setL_other _ _ _ _ _ hz
        have HW_S1 : Hid (Wrote (g :: ([])) wr S1) := HW_wr.out.trans (by rw [hS1']; exact (setL_wrote _ _ _ _).mono fun z hz => by obtain rfl := List.mem_singleton.1 hz; exact List.mem_cons_self ..)
        have hC := markText_any (y + 1 + 1) S1 (by omega) (by omega)
        rw [hS1] at hC
        have HS_S1 : Hid (S1 = _) := hS1
        clear hS1 hS1' hkS1
        go_wp2_with fail
        refine hC.mono ?_
        clear hC s0 z0 s1 z1
        rintro e U1 ⟨rfl, hB⟩
        rw [← HS_S1.out] at hB
        obtain ⟨qU1, HR_U1, HE_U1⟩ : ∃ cc, Hid (U1.heap[g]? = some (.cells cc 48 (0, 0))) ∧ Hid (ElC cur cc j 4 [.int .i64 (y), .int .i64 (y + 1), .string x.S, .int .i64 x.To]) := ⟨_, (hB.block _ (lt_row HR_S1.out)).trans HR_S1.out, HE_S1.out⟩
        have HW_U1 : Hid (Wrote (g :: ([])) wr U1) := HW_S1.out.trans (Wrote.of_below hB)
        clear hB
        have s2 : U1.cell? ⟨g, j * 4 + 2, none⟩ = some (.string x.S) := HE_U1.out.read (m := 2) HR_U1.out rfl
        have z2 : U1.frozen? ⟨g, j * 4 + 2, none⟩ = false := frozen_of_row U1 _ _ _ _ HR_U1.out
        have s3 : U1.cell? ⟨g, j * 4 + 3, none⟩ = some (.int .i64 x.To) := HE_U1.out.read (m := 3) HR_U1.out rfl
        have z3 : U1.frozen? ⟨g, j * 4 + 3, none⟩ = false := frozen_of_row U1 _ _ _ _ HR_U1.out
        obtain ⟨S2, hS2⟩ : ∃ S, S = (U1.setCell ⟨g, j * 4 + 2, none⟩ (.string (mt (y + 1 + 1)))).setCell ⟨g, j * 4 + 3, none⟩ (.int .i64 (y + 1 + 1 + 1)) := ⟨_, rfl⟩
        have hS2' : S2 = setL U1 g (j * 4 + 2) [.string (mt (y + 1 + 1)), .int .i64 (y + 1 + 1 + 1)] := hS2
        obtain ⟨qS2, HR_S2, HE_S2⟩ : ∃ cc, Hid (S2.heap[g]? = some (.cells cc 48 (0, 0))) ∧ Hid (ElC cur cc j 4 [.int .i64 (y), .int .i64 (y + 1), .string (mt (y + 1 + 1)), .int .i64 (y + 1 + 1 + 1)]) := ⟨_, (by show S2.heap[g]? = _; rw [hS2']; exact setL_row _ _ _ _ _ _ HR_U1.out), HE_U1.out.put (m := 2) (vs := [.string (mt (y + 1 + 1)), .int .i64 (y + 1 + 1 + 1)]) (by simp) rfl⟩
        have hkS2 : ∀ z, z ≠ g → S2.heap[z]? = U1.heap[z]? := fun z hz => by rw [hS2']; exact setL_other _ _ _ _ _ hz
        have HW_S2 : Hid (Wrote (g :: ([])) wr S2) := HW_U1.out.trans (by rw [hS2']; exact (setL_wrote _ _ _ _).mono fun z hz => by obtain rfl := List.mem_singleton.1 hz; exact List.mem_cons_self ..)
        have HEND : Hid (y + 1 + 1 + 1 + 1 = q + (sumP ckIns xs (j + 1) : Nat) ∧ y + 1 + 1 + 1 + 1 ≤ 1099511627776) := by have := HNX.out; show _ ∧ _; omega
        have HOX : Hid (InsO S2 [.int .i64 (y), .int .i64 (y + 1), .string (mt (y + 1 + 1)), .int .i64 (y + 1 + 1 + 1)] (mkIns y x) ([])) := by
          exact ⟨rfl, rfl⟩
        have HFIN : Hid (OwnRow 4 48 InsO S2 (.slice (some ⟨g, 0, none⟩) len c) (mixL mkIns ckIns q xs (j + 1)) fp ∧ Wrote fp w S2) := by
          have h3 := HC.out S2 _ [.int .i64 (y), .int .i64 (y + 1), .string (mt (y + 1 + 1)), .int .i64 (y + 1 + 1 + 1)] (mkIns y x) HR_S2.out HE_S2.out HOX.out HW_S2.out
          rw [HY.out, mixL_set _ _ _ _ _ _ HX.out] at h3
          exact ⟨h3, HS.out.2.trans (HW_S2.out.mono HFP.out)⟩
        rw [hS2] at HFIN
        clear hS2 hS2' hkS2
        clear HOX HC HR_S2 HE_S2 HW_S2
        go_wp2_with fail
        go_roundw
        case rel => exact ⟨j + 1, y + 1 + 1 + 1 + 1, by omega, by go_num, by go_num, HEND.out.1, by omega, HEND.out.2, HFIN⟩
        case measure => simp [intOf]; omega
      · have hjn : xs.length ≤ j := by have := HL.out; omega
        have HF : Hid (y = q + ((xs.map ckIns).sum : Nat)) := by
          show _ = _
          rw [HY.out]
          have : sumP ckIns xs j = (xs.map ckIns).sum := by unfold sumP; rw [List.take_of_length_le hjn]
          rw [this]
        have HO : Hid (OwnRow 4 48 InsO wr (.slice (some ⟨g, 0, none⟩) len c) (mkL mkIns ckIns q xs) fp ∧ Wrote fp w wr) := by
          have := HS.out
          rw [mixL_all _ _ _ _ _ hjn] at this
          exact this
        clear HS
        go_wp2_with fail
        go_ret
        exact HGOAL.out _ _ ⟨tret1 HF.out, HO.out.1, HO.out.2⟩

end Go.Proofs.YtfachfimdenapaaDoor

/- What the law reads of its marks on lists of Ins. -/
namespace Go.Proofs.YtfachfimdenapaaDoor
open Go.RowKit
set_option linter.unusedVariables false

end Go.Proofs.YtfachfimdenapaaDoor
