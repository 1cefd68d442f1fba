/- The program and the model put every term to the same bytes, which the program makes in new memory. No condition. (The frame round the walk is the guide's own way.) -/
import Derived.Test.YtickaplokjdijaaLawT
import Derived.Test.YtickaplokjdijaaTRead
import Derived.WalkKit
import Derived.ProofKit
import Derived.OpenShut
import Derived.ShutString
import Derived.ChangeOld
import Derived.Below
namespace Go.Proofs.Ytickaplokjdijaa.fnExactPutTerm
open Go.ChangeShapes Go.WideShapes Go.ChangeAt Go.RowKit
open Go.ChangeMaps (open_string shut_string)
set_option linter.unusedVariables false

theorem own : ownKnob Try.prog.godebug = none := by kernel_rfl
theorem laidOut : laidOutB Try.prog = true := by kernel_rfl

set_option maxHeartbeats 1000000 in
theorem walk (d : Nat) (w : World) (k0 n0 : Int) (s0 : ByteArray) (l0 : Value) (t0 : List (Tm d)) (wk0 : I64 k0) (wn0 : I64 n0) (ws0 : s0.size ≤ maxLen) (r0 : RdL d w l0 t0) (f0 : WfL d t0) :
    Calls Try.prog 12 #[.agg #[.int .i64 k0, .int .i64 n0, .string s0, l0]] w fun e w' => e = .returned (.bool true) ∧ Below w.heap.size w w' := by
  have hs : s0.size ≤ 9223372036854775807 := Nat.le_trans ws0 (by decide)
  obtain ⟨a, c, e0⟩ := r0.len
  obtain ⟨len, hlen⟩ : ∃ len, t0.length = len := ⟨_, rfl⟩
  rw [hlen] at e0
  subst e0
  have HR : Hid (RdL d w (.slice a len c) t0) := r0
  have HF : Hid (WfL d t0) := f0
  clear r0 f0 hlen
  go_enter Try.func12, Try.ntmps12
  go_wp2_with fail
  have bel1 : Below w.heap.size w (w.alloc (.cells #[.int .i64 k0, .int .i64 n0, .string s0, .slice a len c] 44)) := (Below.refl _ _).alloc (Nat.le_refl _) _
  have hcel : (w.alloc (.cells #[.int .i64 k0, .int .i64 n0, .string s0, .slice a len c] 44)).heap[w.heap.size]? = some (.cells #[.int .i64 k0, .int .i64 n0, .string s0, .slice a len c] 44 (0, 0)) := heap_alloc_new w _
  refine (szTerm_of d (szTermS_any d) k0 n0 s0 _ t0 1048576 _ (HR.out.later bel1) HF.out ws0 (by omega) (by omega)).mono ?_
  rintro e wa ⟨rfl, bela⟩
  have hcela := (bela.block _ (by simp)).trans hcel
  have belA : Below w.heap.size w wa := bel1.trans (bela.mono bel1.size)
  clear bel1 hcel bela
  by_cases hz : s0.size + szL d t0 ≤ 1048576
  case neg =>
    have hl : lft 1048576 (s0.size + szL d t0) = -1 := by unfold lft; rw [if_neg (by omega)]
    rw [hl]
    clear hz hl
    go_wp2_with fail
    go_ret
    exact ⟨rfl, belA⟩
  have hl : ∃ x : Int, lft 1048576 (s0.size + szL d t0) = x ∧ 0 ≤ x := ⟨_, rfl, by unfold lft; rw [if_pos (by omega)]; omega⟩
  obtain ⟨x, hx, hx0⟩ := hl
  rw [hx]
  have HZ : Hid (szL d t0 ≤ 1048576) := by show _ ≤ _; omega
  clear hz hx
  have c0 : wa.cell? ⟨w.heap.size, 0, none⟩ = some (.int .i64 k0) := by rw [cell_of_row wa _ 0 _ _ _ hcela]; rfl
  have c1 : wa.cell? ⟨w.heap.size, 1, none⟩ = some (.int .i64 n0) := by rw [cell_of_row wa _ 1 _ _ _ hcela]; rfl
  have c2 : wa.cell? ⟨w.heap.size, 2, none⟩ = some (.string s0) := by rw [cell_of_row wa _ 2 _ _ _ hcela]; rfl
  have c3 : wa.cell? ⟨w.heap.size, 3, none⟩ = some (.slice a len c) := by rw [cell_of_row wa _ 3 _ _ _ hcela]; rfl
  go_wp2_with fail
  refine (toTerm_of d (toTermS_any d) k0 n0 s0 _ t0 wa (HR.out.later belA) HF.out HZ.out).mono ?_
  rintro e wb ⟨a1, l1, c1', fp1, rfl, own1, fr1, belb⟩
  have belB : Below w.heap.size w wb := belA.trans (belb.mono belA.size)
  have hwz : w.heap.size < wa.heap.size := Nat.lt_of_not_le fun h => by rw [Array.getElem?_eq_none h] at hcela; cases hcela
  clear c0 c1 c2 c3
  have hrd := own1.rd
  go_wp2_with fail
  refine (specPutTerm_any d k0 n0 s0 _ t0 wb hrd HF.out wk0 wn0 hs).mono ?_
  rintro e wy ⟨gS, cS, xs, rfl, hxs, ownS, belc⟩
  have HXS : Hid ((Right d k0 n0 s0 t0 8 300 ∧ xs = encT d k0 n0 s0 t0) ∨ (¬ Right d k0 n0 s0 t0 8 300 ∧ xs = [])) := hxs
  have hxl : xs.length ≤ 19200 := by
    rcases hxs with ⟨h1, h2⟩ | ⟨_, h2⟩
    · rw [h2]; exact right_len h1
    · rw [h2]; exact Nat.zero_le _
  obtain ⟨vS, hvS⟩ : ∃ vS, Value.slice (some ⟨gS, 0, none⟩) xs.length cS = vS := ⟨_, rfl⟩
  rw [hvS] at ownS ⊢
  have HVS : Hid (vS = .slice (some ⟨gS, 0, none⟩) xs.length cS) := hvS.symm
  have hgS : gS < wy.heap.size := own_lt (by rw [← hvS] at ownS; exact ownS)
  have HOS : Hid (wy.ownsRow wb.heap.size 5 1 vS xs.length (xs.map (Value.int .u8))) := ownS
  have hcelc := ((belc.block _ (Nat.lt_of_lt_of_le hwz belb.size)).trans (belb.block _ hwz)).trans hcela
  have belC : Below w.heap.size w wy := belB.trans (belc.mono belB.size)
  have hwzc : w.heap.size < wy.heap.size := Nat.lt_of_lt_of_le hwz (Nat.le_trans belb.size belc.size)
  have hbc : wb.heap.size ≤ wy.heap.size := belc.size
  clear own1 fr1 hrd belb belc belA belB hcela hwz hvS ownS hxs
  have c0 : wy.cell? ⟨w.heap.size, 0, none⟩ = some (.int .i64 k0) := by rw [cell_of_row wy _ 0 _ _ _ hcelc]; rfl
  have c1 : wy.cell? ⟨w.heap.size, 1, none⟩ = some (.int .i64 n0) := by rw [cell_of_row wy _ 1 _ _ _ hcelc]; rfl
  have c2 : wy.cell? ⟨w.heap.size, 2, none⟩ = some (.string s0) := by rw [cell_of_row wy _ 2 _ _ _ hcelc]; rfl
  have c3 : wy.cell? ⟨w.heap.size, 3, none⟩ = some (.slice a len c) := by rw [cell_of_row wy _ 3 _ _ _ hcelc]; rfl
  go_wp2_with fail
  refine (toTerm_of d (toTermS_any d) k0 n0 s0 _ t0 wy (HR.out.later belC) HF.out HZ.out).mono ?_
  rintro e wd ⟨a2, l2, c2', fp, rfl, own2, fr2, beld⟩
  have belD : Below w.heap.size w wd := belC.trans (beld.mono belC.size)
  clear c0 c1 c2 c3
  obtain ⟨we, hwe⟩ : ∃ we, we = wd.alloc (.cells #[.int .i64 k0, .int .i64 n0, .string s0, .slice a2 l2 c2'] 26) := ⟨_, rfl⟩
  have bele : Below wd.heap.size wd we := by rw [hwe]; exact (Below.refl _ _).alloc (Nat.le_refl _) _
  have belE : Below w.heap.size w we := belD.trans (bele.mono belD.size)
  have hxe : we.heap[wd.heap.size]? = some (.cells #[.int .i64 k0, .int .i64 n0, .string s0, .slice a2 l2 c2'] 26 (0, 0)) := by rw [hwe]; exact heap_alloc_new wd _
  have hcele := ((bele.block _ (Nat.lt_of_lt_of_le hwzc beld.size)).trans (beld.block _ hwzc)).trans hcelc
  have hze : wd.heap.size < we.heap.size := by rw [hwe]; simp
  have hoe : OwnL d we (.slice a2 l2 c2') t0 fp := own2.frame fun g hg => bele.block g (own2.lt g hg)
  have HFP : Hid (fp.Nodup ∧ ∀ g ∈ fp, wy.heap.size ≤ g ∧ g < wd.heap.size) := fr2
  have hce : Below wy.heap.size wy we := beld.trans (bele.mono beld.size)
  have hosE := ownsRow_later HOS.out hce
  have hC := putTerm_any d k0 n0 s0 _ t0 we hoe.rd HF.out wk0 wn0 hs
  rw [hwe] at hC
  have HWE : Hid (we = _) := hwe
  have hcd : wy.heap.size ≤ wd.heap.size := beld.size
  clear hwe bele beld belD own2 fr2 hcelc hce
  go_wp2_with fail
  refine hC.mono ?_
  clear hC
  rintro e wf ⟨vG, rfl, hvG, belf⟩
  rw [← HWE.out] at belf hvG
  have hoG : wf.ownsRow we.heap.size 5 1 vG xs.length (xs.map (Value.int .u8)) := by
    rcases HXS.out with ⟨h1, h2⟩ | ⟨h1, h2⟩
    · rcases hvG with ⟨_, h3⟩ | ⟨h3, _⟩
      · rw [h2]; exact h3
      · exact absurd h1 h3
    · rcases hvG with ⟨h3, _⟩ | ⟨_, h3⟩
      · exact absurd h3 h1
      · rw [h2, h3]; exact ⟨rfl, .inl ⟨rfl, rfl⟩⟩
  have HS : Hid (St d w wf w.heap.size wd.heap.size #[.int .i64 k0, .int .i64 n0, .string s0, .slice a len c] #[.int .i64 k0, .int .i64 n0, .string s0, .slice a2 l2 c2'] wb.heap.size vS we.heap.size vG xs (.slice a2 l2 c2') t0 fp) :=
    ⟨(belf.block _ (by omega)).trans hcele, (belf.block _ hze).trans hxe, belE.trans (belf.mono belE.size), ownsRow_later hosE belf, hoG, hoe.frame fun g hg => belf.block g (hoe.lt g hg)⟩
  have hef : we.heap.size ≤ wf.heap.size := belf.size
  clear hvG belf hoG hoe hosE HWE hxe hcele belE HOS
  go_wp2_with fail
  refine (eqV _ _ _ _ xs wf HS.out.g HS.out.s (by omega)).mono ?_
  rintro e wg ⟨rfl, belg⟩
  have HSG : Hid (St d w wg _ _ _ _ _ _ _ _ _ _ _ _) := HS.out.later belg
  have hfg : we.heap.size ≤ wg.heap.size := Nat.le_trans hef belg.size
  clear belg HS
  have c0 : wg.cell? ⟨w.heap.size, 0, none⟩ = some (.int .i64 k0) := by rw [cell_of_row wg _ 0 _ _ _ HSG.out.a]; rfl
  have c1 : wg.cell? ⟨w.heap.size, 1, none⟩ = some (.int .i64 n0) := by rw [cell_of_row wg _ 1 _ _ _ HSG.out.a]; rfl
  have c2 : wg.cell? ⟨w.heap.size, 2, none⟩ = some (.string s0) := by rw [cell_of_row wg _ 2 _ _ _ HSG.out.a]; rfl
  have c3 : wg.cell? ⟨w.heap.size, 3, none⟩ = some (.slice a len c) := by rw [cell_of_row wg _ 3 _ _ _ HSG.out.a]; rfl
  have d0 : wg.cell? ⟨wd.heap.size, 0, none⟩ = some (.int .i64 k0) := by rw [cell_of_row wg _ 0 _ _ _ HSG.out.x]; rfl
  have d1 : wg.cell? ⟨wd.heap.size, 1, none⟩ = some (.int .i64 n0) := by rw [cell_of_row wg _ 1 _ _ _ HSG.out.x]; rfl
  have d2 : wg.cell? ⟨wd.heap.size, 2, none⟩ = some (.string s0) := by rw [cell_of_row wg _ 2 _ _ _ HSG.out.x]; rfl
  have d3 : wg.cell? ⟨wd.heap.size, 3, none⟩ = some (.slice a2 l2 c2') := by rw [cell_of_row wg _ 3 _ _ _ HSG.out.x]; rfl
  have HTO : Hid (∀ X, Below wg.heap.size wg X → Calls Try.prog 39 #[.agg #[.int .i64 k0, .int .i64 n0, .string s0, .slice a len c]] X fun e V => ∃ a3 l3 c3', e = .returned (.agg #[.int .i64 k0, .int .i64 n0, .string s0, .slice a3 l3 c3']) ∧ RdL d V (.slice a3 l3 c3') t0 ∧ Below wg.heap.size wg V) := fun X hX => by
    refine (toTerm_of d (toTermS_any d) k0 n0 s0 _ t0 X (HR.out.later (HSG.out.b.trans (hX.mono HSG.out.b.size))) HF.out HZ.out).mono ?_
    rintro e V ⟨a3, l3, c3', fp3, rfl, own3, _, hB⟩
    exact ⟨a3, l3, c3', rfl, own3.rd, hX.trans (hB.mono hX.size)⟩
  have hlst : Below wg.heap.size wg wg.drew := (Below.refl _ _).drew
  go_wp2_with fail
  go_cut [31] (fun v wx => v = .bool false ∧ Below wg.heap.size wg wx)
  case first =>
    go_region_with (first | (go_at_call 39; refine (HTO.out _ hlst).mono ?_; rintro e V ⟨a3, l3, c3', rfl, hrd3, hB⟩; have e0 := cell_later hB d0; have e1 := cell_later hB d1; have e2 := cell_later hB d2; have e3 := cell_later hB d3) | (go_at_call 40; refine (eqTerm_of d (eqTermS_any d) k0 n0 s0 _ _ t0 _ (HSG.out.o.rd.later hB) hrd3 HF.out).mono ?_; rintro e V2 ⟨rfl, hB2⟩))
    all_goals
      go_wp2_with fail
      go_meet
      case rel => exact ⟨rfl, hB.trans (hB2.mono hB.size)⟩
  case rest =>
    obtain ⟨rfl, belh⟩ := hcut
    have HSH : Hid (St d w wc _ _ _ _ _ _ _ _ _ _ _ _) := HSG.out.later belh
    have hgh : wg.heap.size ≤ wc.heap.size := belh.size
    clear belh HSG hlst HTO c0 c1 c2 c3 d0 d1 d2 d3
    have d0 : wc.cell? ⟨wd.heap.size, 0, none⟩ = some (.int .i64 k0) := by rw [cell_of_row wc _ 0 _ _ _ HSH.out.x]; rfl
    have d1 : wc.cell? ⟨wd.heap.size, 1, none⟩ = some (.int .i64 n0) := by rw [cell_of_row wc _ 1 _ _ _ HSH.out.x]; rfl
    have d2 : wc.cell? ⟨wd.heap.size, 2, none⟩ = some (.string s0) := by rw [cell_of_row wc _ 2 _ _ _ HSH.out.x]; rfl
    have d3 : wc.cell? ⟨wd.heap.size, 3, none⟩ = some (.slice a2 l2 c2') := by rw [cell_of_row wc _ 3 _ _ _ HSH.out.x]; rfl
    have hcnt := Nat.le_trans (cntL_szL d t0) HZ.out
    obtain ⟨cn, hcn⟩ : ∃ cn, cntL d t0 = cn := ⟨_, rfl⟩
    have hmk := markTerm_of d k0 n0 s0 a2 l2 c2' t0 fp 1 wc HSH.out.o HFP.out.1 (by omega) (by omega)
    rw [hcn] at hcnt hmk
    clear hcn
    go_wp2_with fail
    refine hmk.mono ?_
    clear hmk
    rintro e wi ⟨rfl, _, hWr⟩
    have HS2 : Hid (S2 w wi _ _ _ _ _ _ _ _) := HSH.out.spent hWr (lo := wy.heap.size) (fun g hg => ⟨(HFP.out.2 g hg).1, Nat.lt_trans (HFP.out.2 g hg).2 hze⟩) hwzc belC.size HVS.out hgS (by omega)
    have hiz : wc.heap.size ≤ wi.heap.size := hWr.size
    clear hWr HSH d0 d1 d2 d3
    go_wp2_with fail
    refine (eqV _ _ _ _ xs wi HS2.out.g HS2.out.s (by omega)).mono ?_
    rintro e wj ⟨rfl, belj⟩
    have HS3 : Hid (S2 w wj _ _ _ _ _ _ _ _) := HS2.out.later belj
    have hjz : wi.heap.size ≤ wj.heap.size := belj.size
    clear belj HS2
    go_wp2_with fail
    refine (markV we.heap.size xs.length vG _ wj HS3.out.g (by omega) (by omega)).mono ?_
    rintro e wk ⟨rfl, hmkd, belk⟩
    have HS4 : Hid (S2 w wk _ _ _ _ _ _ _ _) := HS3.out.under belk (by omega) (by have := belC.size; omega) HVS.out (by omega) hmkd
    have hkz : wj.heap.size ≤ wk.heap.size := belk.size
    clear belk HS3 hmkd
    go_wp2_with fail
    refine (heldV we.heap.size xs.length vG _ wk HS4.out.g (by omega)).mono ?_
    rintro e wk' ⟨rfl, rfl⟩
    have c0 : wk.cell? ⟨w.heap.size, 0, none⟩ = some (.int .i64 k0) := by rw [cell_of_row wk _ 0 _ _ _ HS4.out.a]; rfl
    have c1 : wk.cell? ⟨w.heap.size, 1, none⟩ = some (.int .i64 n0) := by rw [cell_of_row wk _ 1 _ _ _ HS4.out.a]; rfl
    have c2 : wk.cell? ⟨w.heap.size, 2, none⟩ = some (.string s0) := by rw [cell_of_row wk _ 2 _ _ _ HS4.out.a]; rfl
    have c3 : wk.cell? ⟨w.heap.size, 3, none⟩ = some (.slice a len c) := by rw [cell_of_row wk _ 3 _ _ _ HS4.out.a]; rfl
    go_wp2_with fail
    refine (toTerm_of d (toTermS_any d) k0 n0 s0 _ t0 wk (HR.out.later HS4.out.b) HF.out HZ.out).mono ?_
    rintro e wl ⟨a4, l4, c4', fp4, rfl, own4, _, bell⟩
    have HS5 : Hid (S2 w wl _ _ _ _ _ _ _ _) := HS4.out.later bell
    have hrd4 := own4.rd
    clear bell HS4 own4 c0 c1 c2 c3
    go_wp2_with fail
    refine (putTerm_any d k0 n0 s0 _ t0 wl hrd4 HF.out wk0 wn0 hs).mono ?_
    rintro e wm ⟨vH, rfl, hvH, belm⟩
    have HS6 : Hid (S2 w wm _ _ _ _ _ _ _ _) := HS5.out.later belm
    have hoH : wm.ownsRow wl.heap.size 5 1 vH xs.length (xs.map (Value.int .u8)) := by
      rcases HXS.out with ⟨h1, h2⟩ | ⟨h1, h2⟩
      · rcases hvH with ⟨_, h3⟩ | ⟨h3, _⟩
        · rw [h2]; exact h3
        · exact absurd h1 h3
      · rcases hvH with ⟨h3, _⟩ | ⟨_, h3⟩
        · exact absurd h3 h1
        · rw [h2, h3]; exact ⟨rfl, .inl ⟨rfl, rfl⟩⟩
    clear belm HS5 hrd4 hvH
    go_wp2_with fail
    refine (eqV _ _ _ _ xs wm hoH HS6.out.s (by omega)).mono ?_
    rintro e wn ⟨rfl, beln⟩
    have HS7 : Hid (S2 w wn _ _ _ _ _ _ _ _) := HS6.out.later beln
    clear beln HS6 hoH
    go_wp2_with fail
    refine (heldV we.heap.size xs.length vG _ wn HS7.out.g (by omega)).mono ?_
    rintro e wn' ⟨rfl, rfl⟩
    go_wp2_with fail
    go_ret
    exact ⟨rfl, HS7.out.b⟩

set_option maxRecDepth 100000 in
theorem lifted (os : Os) (started : os.Started) (H : Type) (enc : TypeId × Value → H) :
    ReturnsInHanded {} Try.checked os 12 .any (Rows.fnExactPutTermSpec.pre6 enc Try.prog Try.f12 Rows.fnExactPutTermRow.domain false) (Rows.fnExactPutTermSpec.post enc Try.prog Try.f12 false true false false) := by
  refine returnsInHanded_of_change (C := Try.checked) own started (by kernel_rfl) Try.func12
    (ChangeSpec.witness6 (enc := enc) (C := Try.checked) false ⟨#[], #[.agg #[.int .i64 0, .int .i64 0, .string ⟨#[]⟩, .slice none 0 0]], []⟩ 8 (by kernel_rfl) (by kernel_rfl) (by kernel_rfl) (by kernel_rfl)) ?_
  intro W base args ds gs before hval0 hW hcnd _
  have hval : ∀ (j : Nat) t v, Try.f12.params[j]? = some t → args[j]? = some v → Value.okWide Try.prog W .any base t v := hval0
  have hW' := hW
  obtain ⟨p, q, hA0, hV, rfl, hfz, hnd⟩ := hW
  have hA : DataW.TrodAll enc Try.prog W 0 (fun _ => true) true Try.f12.params.toList args.toList ds p := hA0
  rw [Try.params12] at hA hval
  obtain ⟨v0, vs0, d0, ds0, p0, q0, hargs, rfl, rfl, h0, rr0⟩ := trodAll_cons hA
  obtain ⟨rfl, rfl, rfl⟩ := trodAll_nil rr0
  obtain rfl : args = #[v0] := by cases args; simp_all
  obtain ⟨rfl, rfl⟩ := trodVars_none hV
  have kk0 := h0
  have lt0 : ∀ x ∈ p0, x.block < W.heap.size := by obtain ⟨m, hm⟩ := kk0; exact DataW.trod_lt m _ _ _ hm
  obtain ⟨M0, R0⟩ := read_term (hval 0 44 v0 rfl rfl) h0
  obtain ⟨d, hd⟩ : ∃ d, d = M0 := ⟨_, rfl⟩
  obtain ⟨k0, n0, s0, l0, t0, rfl, wk0, wn0, ws0, r0, f0⟩ := R0 d (by omega)
  clear hA0 hval0
  refine (walk d W k0 n0 s0 l0 t0 wk0 wn0 ws0 r0 f0).mono fun e W' ⟨he, bel⟩ => ?_
  subst he
  exact ⟨_, rfl, _, _, _, [], _, [], hW', trodAll_mk1 (shut_bool Try.underlying4 _), (trodAll_cons_mk (Below.trod laidOut (by kernel_rfl) (of_decide_eq_true (by kernel_rfl)) kk0 bel lt0) trodAll_mk0), rfl, bel.frame _, fun h => by cases h⟩

theorem over : Rows.fnExactPutTermRow.holds Try.pinned (OpenSpec.ofChange Rows.fnExactPutTermSpec) :=
  OpenClaim.holds_of_wide 12 Try.f12 rfl rfl rfl rfl rfl rfl rfl ⟨rfl, rfl, rfl, rfl, rfl⟩ rfl rfl rfl rfl rfl (by kernel_rfl) Try.func12 (by kernel_rfl)
    (of_decide_eq_true (by kernel_rfl)) (by unfold Func.isWrapper; first | (rw [if_pos (by decide +kernel)]; kernel_rfl) | (rw [if_neg (by decide +kernel)]; exact ⟨rfl, rfl⟩))
    (fun os started H enc _ => lifted os started H enc)

end Go.Proofs.Ytickaplokjdijaa.fnExactPutTerm
namespace Go.Proofs.Ytickaplokjdijaa
/-- THE STATEMENT. -/
theorem fnExactPutTerm_said : Rows.FnExactPutTermSaid := fnExactPutTerm.over
#print axioms fnExactPutTerm_said
end Go.Proofs.Ytickaplokjdijaa
