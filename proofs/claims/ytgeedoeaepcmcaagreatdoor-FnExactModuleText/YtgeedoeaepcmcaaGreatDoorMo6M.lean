/- The text of a module, and the model's writing of it. -/
import Derived.Test.YtgeedoeaepcmcaaGreatDoorMo4M
import Derived.Test.YtgeedoeaepcmcaaGreatDoorTx2bM
namespace Go.Proofs.YtgeedoeaepcmcaaGreatDoor
open Go.RowKit
set_option linter.unusedVariables false

def pars (d : Nat) (f : Fu d) : List (List UInt8) := f.ps.map fun p => p.data.toList
/-- The text of a function. -/
def funT (d : Nat) (f : Fu d) : List UInt8 := (((f.nm.data.toList ++ [40]) ++ joinS cmm (pars d f)) ++ [41, 32, 45, 62, 32]) ++ (txtX d f.x ++ [46, 10])
/-- The text of a module. -/
def modT (d : Nat) (m : List (Fu d)) : List UInt8 := m.flatMap (funT d)

/-- What ModuleText hands back. -/
def MTxt (d : Nat) (m : List (Fu d)) (r : ByteArray) : Prop := (ModP d m ∧ r = ba (modT d m)) ∨ (¬ ModP d m ∧ r = ⟨#[]⟩)
theorem MTxt.same {d : Nat} {m : List (Fu d)} {r r' : ByteArray} (h : MTxt d m r) (h' : MTxt d m r') : r = r' := by
  rcases h with ⟨h1, rfl⟩ | ⟨h1, rfl⟩
  · rcases h' with ⟨_, rfl⟩ | ⟨h2, _⟩
    · rfl
    · exact absurd h1 h2
  · rcases h' with ⟨h2, _⟩ | ⟨_, rfl⟩
    · exact absurd h2 h1
    · rfl

theorem pars_len {d : Nat} {f : Fu d} (h : FunP d f) (j : Nat) : (joinS cmm ((pars d f).take j)).length ≤ 88 := by
  have h1 := joinS_take_len cmm (pars d f) j
  have h2 : ∀ (l : List ByteArray), (∀ p ∈ l, ParP p) → ((l.map fun p => p.data.toList).map fun x => cmm.length + x.length).sum ≤ 22 * l.length := by
    intro l
    induction l with
    | nil => intro _; exact Nat.le_refl _
    | cons p l ih =>
      intro hp
      have h3 := ih fun q hq => hp q (List.mem_cons_of_mem _ hq)
      have h4 := (hp p (List.mem_cons_self ..)).1.2.2
      have h5 := ba_len p
      have h6 : cmm.length = 2 := rfl
      simp only [List.map_cons, List.sum_cons, List.length_cons]
      simp only [List.map_map] at h3 ⊢
      omega
  have h3 := h2 f.ps h.2.2.1
  have h4 := h.2.1
  have h5 : ((pars d f).map fun x => cmm.length + x.length).sum = ((f.ps.map fun p => p.data.toList).map fun x => cmm.length + x.length).sum := rfl
  omega
theorem funT_len {d : Nat} {f : Fu d} (h : FunP d f) : (funT d f).length ≤ 9800 ∧ f.nm.size ≤ 20 ∧ (txtX d f.x).length ≤ 9600 := by
  have h1 := pars_len h (pars d f).length
  rw [List.take_length] at h1
  have h2 := h.1.1.2.2
  have h3 := ba_len f.nm
  have h4 := txtX_len d false 10 f.x h.2.2.2.1
  have h5 := h.2.2.2.2
  refine ⟨?_, h2, by omega⟩
  unfold funT
  simp only [List.length_append, List.length_cons, List.length_nil]
  omega
theorem modT_len {d : Nat} : ∀ (m : List (Fu d)), (∀ f ∈ m, FunP d f) → (modT d m).length ≤ 9800 * m.length := by
  intro m
  induction m with
  | nil => intro _; exact Nat.le_refl _
  | cons f m ih =>
    intro h
    have h1 := ih fun g hg => h g (List.mem_cons_of_mem _ hg)
    have h2 := (funT_len (h f (List.mem_cons_self ..))).1
    unfold modT at h1 ⊢
    simp only [List.flatMap_cons, List.length_append, List.length_cons]
    omega
theorem modT_succ {d : Nat} {m : List (Fu d)} {k : Nat} {t : Fu d} (ht : m[k]? = some t) : modT d (m.take (k + 1)) = modT d (m.take k) ++ funT d t := by
  have hl := (List.getElem?_eq_some_iff.1 ht).1
  unfold modT
  rw [List.take_succ_eq_append_getElem hl, (List.getElem?_eq_some_iff.1 ht).2, List.flatMap_append]
  simp

set_option maxRecDepth 100000 in
set_option maxHeartbeats 4000000 in
theorem specModuleText_any (d : Nat) (v : Value) (m : List (Fu d)) (w : World) (hr : RowOf 7 (FuC d) w v m) (hz : szM d m ≤ 1048576) :
    Calls Tryz.prog 5 #[.agg #[v]] w fun e w' => ∃ r, e = .returned (.string r) ∧ Hid (MTxt d m r) ∧ Below w.heap.size w w' := by
  have hr' := hr
  obtain ⟨a, c, rfl, hel⟩ := hr
  have HE : Hid (∀ (i : Nat) (x : Fu d), m[i]? = some x → ∃ b o vs, a = some ⟨b, o, none⟩ ∧ vs.length = 7 ∧ (∀ (j : Nat) (u : Value), vs[j]? = some u → w.cell? ⟨b, o + i * 7 + j, none⟩ = some u) ∧ FuC d w vs x) := hel
  obtain ⟨len, hl⟩ : ∃ l, m.length = l := ⟨_, rfl⟩
  have HL : Hid (m.length = len) := hl
  obtain ⟨W, hW⟩ : ∃ W, W = w.alloc (.cells #[.slice a len c] 29) := ⟨_, rfl⟩
  have hA : Below w.heap.size w W := by rw [hW]; exact (Below.refl _ _).alloc (Nat.le_refl _) _
  have HB1 : Hid (W.heap[w.heap.size]? = some (.cells #[.slice a len c] 29 (0, 0))) := by rw [hW]; exact heap_alloc_new w _
  have hC := l5ModuleOk_any d _ m W (hr'.later (FuC.lasts d) hA) hz
  rw [hl] at hC ⊢
  rw [hW] at hC
  have HW : Hid (W = _) := hW
  clear hr' hel hz hl hW
  go_enter Tryz.func5, Tryz.ntmps5
  go_wp2_with fail
  refine hC.mono ?_
  clear hC
  rintro e w1 ⟨q, rfl, HQ, hB⟩
  rw [← HW.out] at hB
  have hb1 : Below w.heap.size w w1 := hA.trans (hB.mono hA.size)
  have HR1 : Hid (w1.heap[w.heap.size]? = some (.cells #[.slice a len c] 29 (0, 0))) := (hB.block _ (lt_row HB1.out)).trans HB1.out
  clear hB hA HW HB1
  cases q
  · have HN : Hid (MTxt d m ⟨#[]⟩) := .inr ⟨fun h => (by have := HQ.out.2 h; cases this), rfl⟩
    clear HQ HR1 HE
    go_wp2_with fail
    go_ret
    exact ⟨_, rfl, HN, hb1⟩
  have HM : Hid (ModP d m) := HQ.out.1 rfl
  have hl12 : len ≤ 12 := by have := HM.out.1; have := HL.out; omega
  have HS : Hid (∀ k, (modT d (m.take k)).length ≤ 117600) := fun k => by
    have h1 := modT_len (m.take k) fun f hf => HM.out.2 f (List.mem_of_mem_take hf)
    have h2 : (m.take k).length ≤ 12 := by rw [List.length_take]; have := HM.out.1; omega
    omega
  have HBW : Hid (Below w.heap.size w w1) := hb1
  clear HQ hb1
  go_wp2_with fail
  go_loopw [3, 4] (fun s i wr => ∃ (k : Nat) (p : ByteArray), k ≤ len ∧ i = .int .i64 k ∧ s = .string p ∧ p.size ≤ 117600 ∧ Hid (p = ba (modT d (m.take k))) ∧ Hid (Below w1.heap.size w1 wr)) (fun _ i _ => len - (intOf i).toNat)
  case atStart => exact ⟨0, ⟨#[]⟩, Nat.zero_le _, rfl, rfl, Nat.zero_le _, rfl, Below.refl _ _⟩
  case round =>
    obtain ⟨k, p, hk, rfl, rfl, hps, HP, hb⟩ := hrel
    have hrow := (hb.out.block _ (lt_row HR1.out)).trans HR1.out
    have b0 : wr.cell? ⟨w.heap.size, 0, none⟩ = some (.slice a len c) := by rw [cell_of_row wr _ 0 _ _ _ hrow]; rfl
    have hbw : Below w.heap.size w wr := HBW.out.trans (hb.out.mono HBW.out.size)
    clear hrow
    by_cases hkl : k < len
    · obtain ⟨t, ht⟩ : ∃ t, m[k]? = some t := ⟨_, List.getElem?_eq_getElem (by have := HL.out; omega)⟩
      obtain ⟨b, o, vs, rfl, hvl, hcell, hre⟩ := HE.out k t ht
      have hfp := HM.out.2 t (List.mem_of_getElem? ht)
      obtain ⟨vp, vx, rfl, ⟨hpr, _⟩, hxr⟩ := hre
      obtain ⟨q1, k1, rfl, hpe⟩ := row_tell hpr
      obtain ⟨i2, i3, s4, a5, l5, c5, a6, l6, c6, rfl⟩ := ExC.shape d _ _ _ hxr
      have f0 : wr.cell? ⟨b, o + k * 7, none⟩ = some _ := cell_later hbw (hcell 0 _ rfl)
      have f1 : wr.cell? ⟨b, o + k * 7 + 1, none⟩ = some _ := cell_later hbw (hcell 1 _ rfl)
      have f2 : wr.cell? ⟨b, o + k * 7 + 2, none⟩ = some _ := cell_later hbw (hcell 2 _ rfl)
      have f3 : wr.cell? ⟨b, o + k * 7 + 3, none⟩ = some _ := cell_later hbw (hcell 3 _ rfl)
      have f4 : wr.cell? ⟨b, o + k * 7 + 4, none⟩ = some _ := cell_later hbw (hcell 4 _ rfl)
      have f5 : wr.cell? ⟨b, o + k * 7 + 5, none⟩ = some _ := cell_later hbw (hcell 5 _ rfl)
      have f6 : wr.cell? ⟨b, o + k * 7 + 6, none⟩ = some _ := cell_later hbw (hcell 6 _ rfl)
      obtain ⟨hfl, hns, hxs⟩ := funT_len hfp
      have hst := modT_succ ht
      have hsk := HS.out (k + 1)
      have HPL : Hid (∀ j, (joinS cmm ((pars d t).take j)).length ≤ 88) := fun j => pars_len hfp j
      have HPE : Hid (∀ (i : Nat) (s : ByteArray), t.ps[i]? = some s → ∃ b o, q1 = some ⟨b, o, none⟩ ∧ w.cell? ⟨b, o + i, none⟩ = some (.string s)) := hpe
      have HPS : Hid (∀ (i : Nat) (s : ByteArray), t.ps[i]? = some s → s.size ≤ 20 ∧ (pars d t)[i]? = some s.data.toList) := fun i s hs => ⟨(hfp.2.2.1 s (List.mem_of_getElem? hs)).1.2.2, by unfold pars; rw [List.getElem?_map, hs]; rfl⟩
      have HXC : Hid (∀ V : World, Below w.heap.size w V → Calls Tryz.prog 11 #[.agg #[.int .i64 i2, .int .i64 i3, .string s4, .slice a5 l5 c5, .slice a6 l6 c6]] V fun r w' => r = .returned (.string (ba (txtX d t.x))) ∧ Below V.heap.size V w') := fun V hV => l5Text_any d _ t.x false 10 V (ExC.lasts d _ _ _ _ hxr hV) hfp.2.2.2.1 (by have := hfp.2.2.2.2; omega)
      have HPN : Hid ((pars d t).length = t.ps.length) := by unfold pars; exact List.length_map ..
      obtain ⟨ln, hln⟩ : ∃ l, t.ps.length = l := ⟨_, rfl⟩
      have hln4 : ln ≤ 4 := by have := hfp.2.1; omega
      have HLN : Hid (t.ps.length = ln) := hln
      rw [hln] at f1 HPN
      obtain ⟨S, hS⟩ : ∃ S, t.nm = S := ⟨_, rfl⟩
      have HFT : Hid (funT d t = (((S.data.toList ++ [40]) ++ joinS cmm (pars d t)) ++ [41, 32, 45, 62, 32]) ++ (txtX d t.x ++ [46, 10])) := by rw [← hS]; rfl
      rw [hS] at f0 hns
      have hDs : (ba (txtX d t.x)).size ≤ 9600 := by rw [ba_size]; exact hxs
      obtain ⟨D, hD⟩ : ∃ D, ba (txtX d t.x) = D := ⟨_, rfl⟩
      rw [hD] at HXC hDs
      obtain ⟨V0, hV0⟩ : ∃ V, V = wr.alloc (.cells #[.string S, .slice q1 ln k1, .int .i64 i2, .int .i64 i3, .string s4, .slice a5 l5 c5, .slice a6 l6 c6] 41) := ⟨_, rfl⟩
      have HV0 : Hid (V0.heap[wr.heap.size]? = some (.cells #[.string S, .slice q1 ln k1, .int .i64 i2, .int .i64 i3, .string s4, .slice a5 l5 c5, .slice a6 l6 c6] 41 (0, 0)) ∧ Below wr.heap.size wr V0) := ⟨by rw [hV0]; exact heap_alloc_new wr _, by rw [hV0]; exact (Below.refl _ _).alloc (Nat.le_refl _) _⟩
      have HPS2 : Hid (∀ q : List UInt8, ba (modT d (m.take k)) ++ ba q = ba (modT d (m.take k) ++ q)) := fun q => ba_app _ _
      obtain ⟨A, hAA⟩ : ∃ A, (p ++ S) ++ ⟨#[40]⟩ = A := ⟨_, rfl⟩
      have hAs : A.size ≤ 117630 := by rw [← hAA, ByteArray.size_append, ByteArray.size_append]; show _ + _ + 1 ≤ _; omega
      have HAA : Hid (A = ba (modT d (m.take k) ++ (S.data.toList ++ [40]))) := by
        show _ = _
        rw [← hAA, HP.out]
        apply ByteArray.ext
        simp [ByteArray.data_append, ba]
      have HAE : Hid (A = (p ++ S) ++ ⟨#[40]⟩) := hAA.symm
      have HFIN : Hid (((A ++ ba (joinS cmm (pars d t))) ++ ⟨#[41, 32, 45, 62, 32]⟩ ++ D) ++ ⟨#[46, 10]⟩ = ba (modT d (m.take (k + 1)))) := by
        show _ = _
        rw [hst, HFT.out, HAA.out, ← hD]
        apply ByteArray.ext
        simp [ByteArray.data_append, ba]
      have HSK : Hid ((ba (modT d (m.take (k + 1)))).size ≤ 117600) := by show _ ≤ _; rw [ba_size]; exact hsk
      have hkl' : (k : Int) < (len : Int) := by omega
      clear hcell hvl hpr hxr hpe hfp hfl hxs hst hsk hln hS hD hAA HP HFT ht HE HPS2
      go_wp2_with fail
      rw [← hV0, ← HAE.out]
      clear f0 f1 f2 f3 f4 f5 f6 b0 hV0
      go_loopw [3, 6] (fun s i wx => ∃ (j : Nat) (p2 : ByteArray), j ≤ ln ∧ i = .int .i64 j ∧ s = .string p2 ∧ p2.size ≤ 117730 ∧ Hid (p2 = A ++ ba (joinS cmm ((pars d t).take j))) ∧ Hid (V0 = wx)) (fun _ i _ => ln - (intOf i).toNat)
      case atStart => exact ⟨0, A, Nat.zero_le _, rfl, rfl, Nat.le_trans hAs (by omega), by show A = A ++ ba []; apply ByteArray.ext; simp [ByteArray.data_append, ba], rfl⟩
      case round =>
        rename World => wx
        obtain ⟨j, p2, hj, rfl, rfl, hps2, HP2, hVx⟩ := hrel
        obtain rfl := hVx.out
        clear hVx
        have c1 : V0.cell? ⟨wr.heap.size, 1, none⟩ = some (.slice q1 ln k1) := by rw [cell_of_row V0 _ 1 _ _ _ HV0.out.1]; rfl
        have hbV : Below w.heap.size w V0 := hbw.trans (HV0.out.2.mono hbw.size)
        by_cases hjl : j < ln
        · obtain ⟨u, hu⟩ : ∃ u, t.ps[j]? = some u := ⟨_, List.getElem?_eq_getElem (by have := HLN.out; omega)⟩
          obtain ⟨pb, po, rfl, g0⟩ := HPE.out j u hu
          have g1 := cell_later hbV g0
          obtain ⟨hus, hup⟩ := HPS.out j u hu
          have hst := joinS_succ cmm (pars d t) j _ hup
          have hsz := HPL.out (j + 1)
          have hjl' : (j : Int) < (ln : Int) := by omega
          clear g0 hu hup
          by_cases hj0 : 0 < j
          · rw [if_pos hj0] at hst
            have HST : Hid ((p2 ++ ⟨#[44, 32]⟩) ++ u = A ++ ba (joinS cmm ((pars d t).take (j + 1)))) := by
              show (p2 ++ ba cmm) ++ ba u.data.toList = _
              rw [HP2.out, HAA.out, hst, ba_app, ba_app, ba_app, ba_app]
              simp only [List.append_assoc]
            have hss : ((p2 ++ ⟨#[44, 32]⟩) ++ u).size ≤ 117730 := by rw [HST.out, ByteArray.size_append, ba_size]; omega
            have hs1 : (p2 ++ ⟨#[44, 32]⟩).size ≤ 117732 := by rw [ByteArray.size_append]; show _ + 2 ≤ _; omega
            have hj1 : (0 : Int) < (j : Int) := by omega
            clear hst hsz HP2
            go_wp2_with fail
            go_roundw
            case rel => exact ⟨j + 1, _, by omega, by go_num, rfl, hss, HST, by first | exact trivial | exact rfl⟩
            case measure => simp [intOf]; omega
          · rw [if_neg hj0] at hst
            have HST : Hid (p2 ++ u = A ++ ba (joinS cmm ((pars d t).take (j + 1)))) := by
              show p2 ++ ba u.data.toList = _
              rw [HP2.out, HAA.out, hst, ba_app, ba_app, ba_app]
              simp only [List.append_assoc]
            have hss : (p2 ++ u).size ≤ 117730 := by rw [HST.out, ByteArray.size_append, ba_size]; omega
            have hj1 : decide ((0 : Int) < (j : Int)) = false := by simp; omega
            clear hst hsz HP2
            go_wp2_with fail
            go_roundw
            case rel => exact ⟨j + 1, _, by omega, by go_num, rfl, hss, HST, by first | exact trivial | exact rfl⟩
            case measure => simp [intOf]; omega
        · obtain rfl : j = ln := by omega
          have HP3 : Hid (p2 = A ++ ba (joinS cmm (pars d t))) := by
            have := HP2.out
            rw [List.take_of_length_le (by rw [HPN.out]; exact Nat.le_refl _)] at this
            exact this
          have hjl' : decide ((j : Int) < (j : Int)) = false := by simp
          have f2 : V0.cell? ⟨wr.heap.size, 2, none⟩ = some (.int .i64 i2) := by rw [cell_of_row V0 _ 2 _ _ _ HV0.out.1]; rfl
          have f3 : V0.cell? ⟨wr.heap.size, 3, none⟩ = some (.int .i64 i3) := by rw [cell_of_row V0 _ 3 _ _ _ HV0.out.1]; rfl
          have f4 : V0.cell? ⟨wr.heap.size, 4, none⟩ = some (.string s4) := by rw [cell_of_row V0 _ 4 _ _ _ HV0.out.1]; rfl
          have f5 : V0.cell? ⟨wr.heap.size, 5, none⟩ = some (.slice a5 l5 c5) := by rw [cell_of_row V0 _ 5 _ _ _ HV0.out.1]; rfl
          have f6 : V0.cell? ⟨wr.heap.size, 6, none⟩ = some (.slice a6 l6 c6) := by rw [cell_of_row V0 _ 6 _ _ _ HV0.out.1]; rfl
          have hC := HXC.out V0 hbV
          have hs2 : (p2 ++ ⟨#[41, 32, 45, 62, 32]⟩).size ≤ 117735 := by rw [ByteArray.size_append]; show _ + 5 ≤ _; omega
          have hs3 : ((p2 ++ ⟨#[41, 32, 45, 62, 32]⟩) ++ D).size ≤ 127335 := by rw [ByteArray.size_append]; omega
          clear HP2 HPE HPS HPL HXC
          go_wp2_with fail
          refine hC.mono ?_
          clear hC c1 f2 f3 f4 f5 f6
          rintro e w2 ⟨rfl, hB2⟩
          have HF : Hid (((p2 ++ ⟨#[41, 32, 45, 62, 32]⟩) ++ D) ++ ⟨#[46, 10]⟩ = ba (modT d (m.take (k + 1)))) := by
            show _ = _
            rw [HP3.out]
            exact HFIN.out
          have hss : (((p2 ++ ⟨#[41, 32, 45, 62, 32]⟩) ++ D) ++ ⟨#[46, 10]⟩).size ≤ 117600 := by rw [HF.out]; exact HSK.out
          have hb2 : Hid (Below w1.heap.size w1 w2) := (hb.out.trans (HV0.out.2.mono hb.out.size)).trans (hB2.mono (Nat.le_trans hb.out.size HV0.out.2.size))
          clear HFIN HP3 HSK hB2 hbV
          go_wp2_with fail
          go_roundw
          case rel => exact ⟨k + 1, _, by omega, by go_num, rfl, hss, HF, hb2⟩
          case measure => simp [intOf]; omega
    · obtain rfl : k = len := by omega
      have hkl' : decide ((k : Int) < (k : Int)) = false := by simp
      have HN : Hid (MTxt d m p) := by
        have h1 := HP.out
        rw [List.take_of_length_le (by have := HL.out; omega)] at h1
        exact .inl ⟨HM.out, h1⟩
      clear HP HE HS
      go_wp2_with fail
      go_ret
      exact ⟨p, rfl, HN, hbw⟩

end Go.Proofs.YtgeedoeaepcmcaaGreatDoor
