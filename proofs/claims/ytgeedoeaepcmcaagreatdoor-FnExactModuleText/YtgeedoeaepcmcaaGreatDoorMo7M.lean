/- The program's text of a module. -/
import Derived.Test.YtgeedoeaepcmcaaGreatDoorMo4M
import Derived.Test.YtgeedoeaepcmcaaGreatDoorMo6M
import Derived.Test.YtgeedoeaepcmcaaGreatDoorTx4M
namespace Go.Proofs.YtgeedoeaepcmcaaGreatDoor
open Go.RowKit
set_option linter.unusedVariables false

theorem joinS_join (sep : List UInt8) (l : List (List UInt8)) : Lib.join l sep = joinS sep l := by
  cases l with
  | nil => rfl
  | cons x r =>
    rw [Lib.join_cons]
    show x ++ (r.map (sep ++ ·)).flatten = r.foldl (fun a y => (a ++ sep) ++ y) x
    induction r generalizing x with
    | nil => simp
    | cons y r ih => rw [List.foldl_cons, ← ih]; simp

theorem join_any (l : List ByteArray) (v : Value) (sep : ByteArray) (w : World) (h : TellS w v l) (hc : CapV v) (hs : (joinS sep.data.toList (l.map fun p => p.data.toList)).length ≤ 1000000) (hl : l.length ≤ 1000000) :
    Calls Tryz.prog 15 #[v, .string sep] w fun e w' => e = .returned (.string (ba (joinS sep.data.toList (l.map fun p => p.data.toList)))) ∧ Below w.heap.size w w' := by
  obtain ⟨a, c, rfl, he⟩ := h
  have hcap := hc _ _ _ rfl
  cases l with
  | nil =>
    refine (Tryz.strings_Join_none a c sep w).mono ?_
    rintro e w' ⟨rfl, rfl⟩
    exact ⟨rfl, Below.refl _ _⟩
  | cons s r =>
    obtain ⟨b, o, rfl, h0⟩ := he 0 s rfl
    obtain ⟨cs, T, fr, hb, _⟩ := Go.Sort.cells_of_cell? h0
    have hx := Tryz.strings_Join b o c (s :: r) sep w (fun j x hx => by
      obtain ⟨b', o', e1, e2⟩ := he j x hx
      simp only [Option.some.injEq, Addr.mk.injEq, and_true] at e1
      obtain ⟨rfl, rfl⟩ := e1
      exact e2) (lt_row hb) (by omega) hcap (by rw [joinS_join]; omega)
    rw [joinS_join] at hx
    exact hx

set_option maxRecDepth 100000 in
set_option maxHeartbeats 4000000 in
theorem moduleText_any (d : Nat) (v : Value) (m : List (Fu d)) (fp : List Nat) (w : World) (hown : OwnRow 7 41 (FuO d) w v m fp) (hnd : fp.Nodup) (hlt : ∀ g ∈ fp, g < w.heap.size) (hz : szM d m ≤ 1048576) (htb : TabOk w) :
    Calls Tryz.prog 7 #[.agg #[v]] w fun e w' => ∃ r, e = .returned (.string r) ∧ Hid (MTxt d m r) ∧ Below w.heap.size w w' := by
  have hrd := hown.rd (FuO.readc d)
  obtain ⟨a, c, rfl, hel⟩ := hrd
  have HE : Hid (∀ (i : Nat) (x : Fu d), m[i]? = some x → ∃ b o vs, a = some ⟨b, o, none⟩ ∧ vs.length = 7 ∧ (∀ (j : Nat) (u : Value), vs[j]? = some u → w.cell? ⟨b, o + i * 7 + j, none⟩ = some u) ∧ FuC d w vs x) := hel
  obtain ⟨len, hl⟩ : ∃ l, m.length = l := ⟨_, rfl⟩
  have HL : Hid (m.length = len) := hl
  obtain ⟨W, hW⟩ : ∃ W, W = w.alloc (.cells #[.slice a len c] 29) := ⟨_, rfl⟩
  have hA : Below w.heap.size w W := by rw [hW]; exact (Below.refl _ _).alloc (Nat.le_refl _) _
  have HB1 : Hid (W.heap[w.heap.size]? = some (.cells #[.slice a len c] 29 (0, 0))) := by rw [hW]; exact heap_alloc_new w _
  have hC := moduleFits_any d _ m fp W (hown.frame (FuO.lasts d) fun g hg => hA.block g (hlt g hg)) hnd (fun g hg => Nat.lt_of_lt_of_le (hlt g hg) hA.size) hz
  rw [hl] at hC ⊢
  rw [hW] at hC
  have HW : Hid (W = _) := hW
  have HTB : Hid (TabOk w) := htb
  clear hown hel hz hl hW hnd hlt htb
  go_enter Tryz.func7, Tryz.ntmps7
  go_wp2_with fail
  refine hC.mono ?_
  clear hC
  rintro e w1 ⟨q, rfl, HQ, hB⟩
  rw [← HW.out] at hB
  have hb1 : Below w.heap.size w w1 := hA.trans (hB.mono hA.size)
  have hr1 := (hB.block _ (lt_row HB1.out)).trans HB1.out
  clear hB hA HW HB1
  cases q
  · have HN : Hid (MTxt d m ⟨#[]⟩) := .inr ⟨fun h => (by have := HQ.out.2 h; cases this), rfl⟩
    clear HQ hr1 HE HTB
    go_wp2_with fail
    go_ret
    exact ⟨_, rfl, HN, hb1⟩
  have HM : Hid (ModP d m) := HQ.out.1 rfl
  have hl12 : len ≤ 12 := by have := HM.out.1; have := HL.out; omega
  have HS : Hid (∀ k, (modT d (m.take k)).length ≤ 117600) := fun k => by
    have h1 := modT_len (m.take k) fun f hf => HM.out.2 f (List.mem_of_mem_take hf)
    have h2 : (m.take k).length ≤ 12 := by rw [List.length_take]; have := HM.out.1; omega
    omega
  have HBW : Hid (Below w.heap.size w w1) := hb1
  have HT1 : Hid (TabOk w1) := HTB.out.later hb1
  obtain ⟨V, hV⟩ : ∃ V, V = w1.alloc (.cells #[.pointer none, .slice none 0 0] 47) := ⟨_, rfl⟩
  have hV1 : Below w1.heap.size w1 V := by rw [hV]; exact (Below.refl _ _).alloc (Nat.le_refl _) _
  have HBV : Hid (Bd w1 w1.heap.size [] V) := ⟨by rw [hV]; exact Lib.IsBuilderF.of (Lib.fresh_isBuilder _ 5 w1), hV1⟩
  have hhV := (hV1.block _ (lt_row hr1)).trans hr1
  have b0 : V.cell? ⟨w.heap.size, 0, none⟩ = some (.slice a len c) := by rw [cell_of_row V _ 0 _ _ _ hhV]; rfl
  rw [hV] at b0
  clear HQ hb1 hr1 hhV hV1 HTB
  go_wp2_with fail
  rw [← hV]
  clear hV b0
  go_loopw [12] (fun i wr => ∃ k : Nat, k ≤ len ∧ i = .int .i64 k ∧ Hid (Bd w1 w1.heap.size (modT d (m.take k)) wr)) (fun i _ => len - (intOf i).toNat)
  case atStart => exact ⟨0, Nat.zero_le _, rfl, HBV⟩
  case round =>
    clear HBV
    obtain ⟨k, hk, rfl, HB⟩ := hrel
    have hbw : Below w.heap.size w wr := HBW.out.trans (HB.out.2.mono HBW.out.size)
    by_cases hkl : k < len
    · obtain ⟨t, ht⟩ : ∃ t, m[k]? = some t := ⟨_, List.getElem?_eq_getElem (by have := HL.out; omega)⟩
      obtain ⟨b, o, vs, rfl, hvl, hcell, hre⟩ := HE.out k t ht
      have hfp := HM.out.2 t (List.mem_of_getElem? ht)
      obtain ⟨vp, vx, rfl, ⟨hpr, hpc⟩, hxr⟩ := hre
      have hpt := row_tell hpr
      obtain ⟨q1, k1, hq1⟩ := hpr.slice
      obtain ⟨i2, i3, s4, a5, l5, c5, a6, l6, c6, rfl⟩ := ExC.shape d _ _ _ hxr
      obtain ⟨ln, hln⟩ : ∃ l, t.ps.length = l := ⟨_, rfl⟩
      rw [hln] at hq1
      subst hq1
      have f0 : wr.cell? ⟨b, o + k * 7, none⟩ = some _ := cell_later hbw (hcell 0 _ rfl)
      have f1 : wr.cell? ⟨b, o + k * 7 + 1, none⟩ = some _ := cell_later hbw (hcell 1 _ rfl)
      have f2 : wr.cell? ⟨b, o + k * 7 + 2, none⟩ = some _ := cell_later hbw (hcell 2 _ rfl)
      have f3 : wr.cell? ⟨b, o + k * 7 + 3, none⟩ = some _ := cell_later hbw (hcell 3 _ rfl)
      have f4 : wr.cell? ⟨b, o + k * 7 + 4, none⟩ = some _ := cell_later hbw (hcell 4 _ rfl)
      have f5 : wr.cell? ⟨b, o + k * 7 + 5, none⟩ = some _ := cell_later hbw (hcell 5 _ rfl)
      have f6 : wr.cell? ⟨b, o + k * 7 + 6, none⟩ = some _ := cell_later hbw (hcell 6 _ rfl)
      obtain ⟨hfl, hns, hxs⟩ := funT_len hfp
      have hst := modT_succ ht
      have hsk := HS.out k
      have hpl := pars_len hfp (pars d t).length
      rw [List.take_length] at hpl
      have hpn := hfp.2.1
      obtain ⟨S, hS⟩ : ∃ S, t.nm = S := ⟨_, rfl⟩
      have HFT : Hid (funT d t = (((S.data.toList ++ [40]) ++ joinS cmm (pars d t)) ++ [41, 32, 45, 62, 32]) ++ (txtX d t.x ++ [46, 10])) := by rw [← hS]; rfl
      rw [hS] at f0 hns
      obtain ⟨X, hX⟩ : ∃ X, X = wr.alloc (.cells #[.string S, .slice q1 ln k1, .int .i64 i2, .int .i64 i3, .string s4, .slice a5 l5 c5, .slice a6 l6 c6] 41) := ⟨_, rfl⟩
      have hXb : Below wr.heap.size wr X := by rw [hX]; exact (Below.refl _ _).alloc (Nat.le_refl _) _
      have hXn : X.heap[wr.heap.size]? = some (.cells #[.string S, .slice q1 ln k1, .int .i64 i2, .int .i64 i3, .string s4, .slice a5 l5 c5, .slice a6 l6 c6] 41 (0, 0)) := by rw [hX]; exact heap_alloc_new wr _
      have hbX : Below w.heap.size w X := hbw.trans (hXb.mono hbw.size)
      have hbne : wr.heap.size ≠ w1.heap.size := fun e => by have := HB.out.blt; omega
      have HBX : Hid (∀ Y : World, BoxKept w1.heap.size X Y → Y.heap[wr.heap.size]? = some (.cells #[.string S, .slice q1 ln k1, .int .i64 i2, .int .i64 i3, .string s4, .slice a5 l5 c5, .slice a6 l6 c6] 41 (0, 0))) := fun Y hY => hY _ _ _ _ hbne (by decide) hXn
      have HJ : Hid (∀ Y : World, Below X.heap.size X Y → Calls Tryz.prog 15 #[.slice q1 ln k1, .string ⟨#[44, 32]⟩] Y fun e w' => e = .returned (.string (ba (joinS cmm (pars d t)))) ∧ Below Y.heap.size Y w') := fun Y hY => join_any t.ps _ ⟨#[44, 32]⟩ Y ((hpt.later hbX).later hY) hpc (by show (joinS cmm (pars d t)).length ≤ _; omega) (by omega)
      obtain ⟨J, hJ⟩ : ∃ J, ba (joinS cmm (pars d t)) = J := ⟨_, rfl⟩
      have hJs : J.size ≤ 88 := by rw [← hJ, ba_size]; exact hpl
      rw [hJ] at HJ
      obtain ⟨R1, hR1⟩ : ∃ R, modT d (m.take k) ++ (((S ++ ⟨#[40]⟩) ++ J) ++ ⟨#[41, 32, 45, 62, 32]⟩ : ByteArray).data.toList = R := ⟨_, rfl⟩
      have hR1s : R1.length ≤ 117800 := by
        rw [← hR1, List.length_append, ba_len (((S ++ ⟨#[40]⟩) ++ J) ++ ⟨#[41, 32, 45, 62, 32]⟩), ByteArray.size_append, ByteArray.size_append, ByteArray.size_append]
        show _ + (_ + 1 + _ + 5) ≤ _
        omega
      obtain ⟨STR, hSTR⟩ : ∃ s, ((S ++ ⟨#[40]⟩) ++ J) ++ ⟨#[41, 32, 45, 62, 32]⟩ = s := ⟨_, rfl⟩
      have hSTs : STR.size ≤ 200 := by
        rw [← hSTR, ByteArray.size_append, ByteArray.size_append, ByteArray.size_append]
        show (_ + 1 + _ + 5) ≤ _
        omega
      have HBXX : Hid (Bd w1 w1.heap.size (modT d (m.take k)) X) := HB.out.later hXb
      have HWR0 : ∀ Y : World, Below X.heap.size X Y → Calls Tryz.prog 14 #[.pointer (some ⟨w1.heap.size, 0, none⟩), .string STR] Y fun e w' => ∃ zz, e = .returned zz ∧ Hid (Bd w1 w1.heap.size (modT d (m.take k) ++ STR.data.toList) w') ∧ Hid (BoxKept w1.heap.size X w') := fun Y hY => by
        have hBY := HBXX.out.later hY
        have hwr := write_any w1 w1.heap.size (modT d (m.take k)) STR Y hBY (by omega)
        refine hwr.mono ?_
        rintro e w' ⟨rfl, h1, h2⟩
        exact ⟨_, rfl, h1, (BoxKept.of_below hY).trans h2.out⟩
      have HWR : Hid (∀ Y : World, Below X.heap.size X Y → Calls Tryz.prog 14 #[.pointer (some ⟨w1.heap.size, 0, none⟩), .string (((S ++ ⟨#[40]⟩) ++ J) ++ ⟨#[41, 32, 45, 62, 32]⟩)] Y fun e w' => ∃ zz, e = .returned zz ∧ Hid (Bd w1 w1.heap.size R1 w') ∧ Hid (BoxKept w1.heap.size X w')) := by
        rw [hSTR] at hR1
        rw [hSTR, ← hR1]
        exact HWR0
      clear HWR0 HBXX hSTs hSTR STR
      have HRX : Hid (R1 ++ txtX d t.x ++ (⟨#[46, 10]⟩ : ByteArray).data.toList = modT d (m.take (k + 1))) := by
        show (R1 ++ txtX d t.x) ++ [46, 10] = _
        rw [hst, HFT.out, ← hR1, ba_append, ba_append, ba_append, ← hJ, ba_toList]
        show ((_ ++ (((_ ++ [40]) ++ _) ++ [41, 32, 45, 62, 32])) ++ _) ++ _ = _
        simp only [List.append_assoc]
      have HWX : Hid (∀ Y : World, Bd w1 w1.heap.size R1 Y → Calls Tryz.prog 16 #[.pointer (some ⟨w1.heap.size, 0, none⟩), .agg #[.int .i64 i2, .int .i64 i3, .string s4, .slice a5 l5 c5, .slice a6 l6 c6]] Y fun r w' => r = .returned (.tuple #[]) ∧ Hid (Bd w1 w1.heap.size (R1 ++ txtX d t.x) w') ∧ Hid (BoxKept w1.heap.size Y w')) := fun Y hY => writeExpr_any d w1 w1.heap.size R1 _ t.x false 10 Y (ExC.lasts d _ _ _ _ hxr HBW.out) hfp.2.2.2.1 HT1.out hY (by have := hfp.2.2.2.2; omega) (by have := hfp.2.2.2.2; omega)
      have hR2s : (R1 ++ txtX d t.x).length + 2 ≤ 140737488355328 := by rw [List.length_append]; omega
      have d0 : X.cell? ⟨wr.heap.size, 0, none⟩ = some (.string S) := by rw [cell_of_row X _ 0 _ _ _ hXn]; rfl
      have d1 : X.cell? ⟨wr.heap.size, 1, none⟩ = some (.slice q1 ln k1) := by rw [cell_of_row X _ 1 _ _ _ hXn]; rfl
      have hkl' : (k : Int) < (len : Int) := by omega
      have hlst : Below X.heap.size X X.drew := (Below.refl _ _).drew
      have hs1 : (S ++ ⟨#[40]⟩).size ≤ 21 := by rw [ByteArray.size_append]; show _ + 1 ≤ _; omega
      have hs2 : ((S ++ ⟨#[40]⟩) ++ J).size ≤ 109 := by rw [ByteArray.size_append]; omega
      clear hcell hvl hpr hpc hpt hxr hfp hfl hxs hst hsk hpl hpn hln hS HFT ht HE HB hXb hXn hbX hR1 hJ
      go_wp2_with fail
      rw [← hX]
      clear hX f0 f1 f2 f3 f4 f5 f6
      go_region_with (first | (go_at_call 15; refine (HJ.out _ hlst).mono ?_; rintro e Y ⟨rfl, hB0⟩; have hB := hlst.trans (hB0.mono hlst.size); have e0 := cell_later hB d0) | (go_at_call 14; refine (HWR.out Y hB).mono ?_; rintro e Z ⟨zz, rfl, HZ, HKZ⟩))
      all_goals
        have hbx := HBX.out Z HKZ.out
        have g2 : Z.cell? ⟨wr.heap.size, 2, none⟩ = some (.int .i64 i2) := by rw [cell_of_row Z _ 2 _ _ _ hbx]; rfl
        have g3 : Z.cell? ⟨wr.heap.size, 3, none⟩ = some (.int .i64 i3) := by rw [cell_of_row Z _ 3 _ _ _ hbx]; rfl
        have g4 : Z.cell? ⟨wr.heap.size, 4, none⟩ = some (.string s4) := by rw [cell_of_row Z _ 4 _ _ _ hbx]; rfl
        have g5 : Z.cell? ⟨wr.heap.size, 5, none⟩ = some (.slice a5 l5 c5) := by rw [cell_of_row Z _ 5 _ _ _ hbx]; rfl
        have g6 : Z.cell? ⟨wr.heap.size, 6, none⟩ = some (.slice a6 l6 c6) := by rw [cell_of_row Z _ 6 _ _ _ hbx]; rfl
        have hC := HWX.out Z HZ.out
        clear hbx HZ HKZ HBX HWX HJ HWR hB d0 d1 hlst
        go_wp2_with fail
        refine hC.mono ?_
        clear hC g2 g3 g4 g5 g6
        rintro e w4 ⟨rfl, HB4, _⟩
        have hWs := write_any w1 w1.heap.size _ ⟨#[46, 10]⟩ w4 HB4.out hR2s
        rw [HRX.out] at hWs
        clear HB4 HRX hR2s
        go_wp2_with fail
        refine hWs.mono ?_
        clear hWs
        rintro e w5 ⟨rfl, HB5, _⟩
        go_wp2_with fail
        go_roundw
        case rel => exact ⟨k + 1, by omega, by go_num, HB5⟩
        case measure => simp [intOf]; omega
    · obtain rfl : k = len := by omega
      have hkl' : decide ((k : Int) < (k : Int)) = false := by simp
      have HBE : Hid (Bd w1 w1.heap.size (modT d m) wr) := by
        have h1 := HB.out
        rw [List.take_of_length_le (by have := HL.out; omega)] at h1
        exact h1
      have HN : Hid (MTxt d m (ba (modT d m))) := .inl ⟨HM.out, rfl⟩
      have hSt := Tryz.Builder_String_any_k w1.heap.size w1.heap.size (modT d m) wr HBE.out.1 HBE.out.2.size
      rw [show (⟨(modT d m).toArray⟩ : ByteArray) = ba (modT d m) from rfl] at hSt
      generalize ba (modT d m) = R at hSt HN
      clear HB HE HS HBE
      go_wp2_with fail
      refine hSt.mono ?_
      clear hSt
      rintro e Z ⟨rfl, _, hZ, _⟩
      have hbZ : Below w.heap.size w Z := hbw.trans (hZ.mono HBW.out.size)
      clear hbw hZ
      go_wp2_with fail
      go_ret
      exact ⟨R, rfl, HN, hbZ⟩

end Go.Proofs.YtgeedoeaepcmcaaGreatDoor
