/- Drawn terms that are sorted are all of them, none less than the one ahead; sorted again they stay so. No condition. (The frame round the walk is the guide's own way.) -/
import Derived.Test.YtjdhkhpdhblhbaaSo6M
import Derived.Test.YtjdhkhpdhblhbaaPutM
import Derived.WalkKit
import Derived.Deep.DeepCutAuto
import Derived.ProofKit
import Derived.OpenShut
import Derived.ShutString
import Derived.ChangeOld
import Derived.Below
namespace Go.Proofs.Ytjdhkhpdhblhbaa.fnSorted
open Go.ChangeShapes Go.WideShapes Go.ChangeAt Go.RowKit
open Go.ChangeMaps (open_string shut_string)
set_option linter.unusedVariables false

theorem own : ownKnob Try.prog.godebug = none := by kernel_rfl
theorem laidOut : laidOutB Try.prog = true := by kernel_rfl

set_option maxRecDepth 100000 in
set_option maxHeartbeats 8000000 in
theorem walk (w : World) (a0 : Option Addr) (len0 cap0 : Nat) (z0 : List Int) (w0 : IsRow .u8 w a0 len0 cap0 z0) :
    Calls Try.prog 8 #[.slice a0 len0 cap0] w fun e w' => e = .returned (.bool true) ∧ Below w.heap.size w w' := by
  by_cases hbig : 1048576 < len0
  · go_enter Try.func8, Try.ntmps8
    go_wp2_with fail
    refine (big_yes a0 len0 cap0 w hbig).mono ?_
    rintro e w' ⟨rfl, rfl⟩
    go_wp2
    go_ret
    exact ⟨rfl, Below.refl _ _⟩
  have hm : len0 ≤ 1048576 := by omega
  have hD := drawSort_any a0 len0 cap0 z0 w w0 hm
  clear w0
  go_enter Try.func8, Try.ntmps8
  go_wp2_with fail
  refine (big_no a0 len0 cap0 w hm).mono ?_
  rintro e w' ⟨rfl, rfl⟩
  go_wp2_with fail
  refine hD.mono ?_
  clear hD
  rintro e w1 ⟨ad, l, c, ts, rfl, hlen, hDs⟩
  obtain ⟨_, hb1, ⟨fp0, hM⟩, hsm, _⟩ := hDs
  obtain ⟨a', l', c', fl, ev, hol, hfl, hwf⟩ := hM.own
  clear ev hM hfl hwf
  by_cases hts : ts = []
  · obtain ⟨aa, cc, hq⟩ := hol.rdq.len
    have hl0 : l = 0 := by
      rw [hts] at hq
      simp only [Value.slice.injEq] at hq
      exact hq.2.1
    subst hl0
    clear hol hq hsm hlen hts
    go_wp2_with fail
    refine (sortTerms_none ad c w1).mono ?_
    rintro e w2 ⟨rfl, hb2⟩
    go_wp2_with fail
    refine (sortTerms_nil w2).mono ?_
    rintro e w3 ⟨rfl, hb3⟩
    go_wp2_with fail
    refine (sameTerms_any (.slice none 0 0) (.slice none 0 0) [] w3 (own_nothing 2 w3).rd (own_nothing 2 w3).rd (fun x hx => by simp at hx) (by simp)).mono ?_
    rintro e w4 ⟨rfl, hb4⟩
    have hbF : Below w.heap.size w w4 := hb1.trans ((hb2.trans ((hb3.trans (hb4.mono hb3.size)).mono hb2.size)).mono hb1.size)
    clear hb1 hb2 hb3 hb4
    go_wp2_with fail
    refine wp_loop_rounds 1 ?_
    rw [rounds_succ]
    go_wp2_with fail
    go_ret
    exact ⟨rfl, hbF⟩
  obtain ⟨gl, rfl, hln⟩ := own_head hol hts
  obtain ⟨n, hn⟩ : ∃ n, ts.length = n := ⟨_, rfl⟩
  have HN : Hid (ts.length = n) := hn
  have hC := sortTerms_some _ ts w1 hol.rdq hts (by omega) hsm (by have := cnt_few ts hsm; omega)
  rw [hn] at hln hlen
  subst hln
  have HOL : Hid (OwnL 2 w1 (.slice (some ⟨gl, 0, none⟩) l c) ts fl) := hol
  have HSM : Hid (∀ x ∈ ts, SmT 2 x) := hsm
  have HTS : Hid (ts ≠ []) := hts
  clear hol hsm hts hn
  go_wp2_with fail
  refine hC.mono ?_
  clear hC
  rintro e w2 ⟨av, ls, cs, us, fs, rfl, hos, hperm, hsrt, hfs, hb2⟩
  have hune : us ≠ [] := fun e => HTS.out (by rw [e] at hperm; exact hperm.symm.eq_nil)
  obtain ⟨gs, rfl, hls⟩ := own_head' hos hune
  have hul : us.length = l := hperm.length_eq.trans HN.out
  have husm : ∀ x ∈ us, SmT 2 x := fun x hx => HSM.out x (hperm.mem_iff.1 hx)
  have hE := sortTerms_some _ us w2 hos.rdq hune (by omega) husm (by have := cnt_few us husm; omega)
  rw [hul] at hls
  subst hls
  have HSL : Hid (SL w w2 gl c gs cs ls ts us fl fs) := ⟨HOL.out.frame fun g hg => hb2.block g (HOL.out.lt g hg), hos, hb1.trans (hb2.mono hb1.size)⟩
  have HU : Hid (us.Perm ts ∧ SortedTo (Lt 2) us ls ∧ us.length = ls ∧ ∀ x ∈ us, SmT 2 x) := ⟨hperm, by rw [← hul]; exact hsrt, hul, husm⟩
  clear hos hperm hsrt hfs hb2 hb1 hune husm HOL HTS
  go_wp2_with fail
  refine hE.mono ?_
  clear hE
  rintro e w3 ⟨a3, l3, c3, us3, f3, rfl, ho3, hp3, hs3, hf3, hb3⟩
  have hsame : us3 = us := sorted_one (lin_Lt 2) (fun x hx => sm2_ok (HU.out.2.2.2 x (hp3.mem_iff.1 hx))) hs3 (by rw [HU.out.2.2.1]; exact HU.out.2.1) hp3
  subst hsame
  have HSL3 : Hid (SL w w3 gl c gs cs ls ts us3 fl fs) := HSL.out.later hb3
  have hF := sameTerms_any (.slice a3 l3 c3) (.slice (some ⟨gs, 0, none⟩) ls cs) us3 w3 ho3.rd HSL3.out.os.rd HU.out.2.2.2 (by omega)
  clear HSL ho3 hp3 hs3 hf3 hb3
  go_wp2_with fail
  refine hF.mono ?_
  clear hF
  rintro e w4 ⟨rfl, hb4⟩
  have HSL4 : Hid (SL w w4 gl c gs cs ls ts us3 fl fs) := HSL3.out.later hb4
  clear HSL3 hb4
  go_wp2_with fail
  go_loopw [5] (fun vi wr => Hid (∃ i : Nat, i ≤ ls ∧ vi = .int .i64 i ∧ SL w wr gl c gs cs ls ts us3 fl fs)) (fun vi _ => ls - (intOf vi).toNat)
  case atStart => exact ⟨0, Nat.zero_le _, rfl, HSL4.out⟩
  case round =>
    obtain ⟨wo, rfl⟩ : ∃ wo : World, wo = wr := ⟨_, rfl⟩
    obtain ⟨i, hi, rfl, hSo⟩ := hrel.out
    clear hrel HSL4
    by_cases hil : i < ls
    · obtain ⟨y, hy⟩ : ∃ y, us3[i]? = some y := ⟨_, List.getElem?_eq_getElem (by rw [HU.out.2.2.1]; exact hil)⟩
      obtain ⟨f, hf⟩ := told_eq y
      have HF : Hid (us3[i]? = some y ∧ ∀ z, f z = true ↔ z = y) := ⟨hy, hf⟩
      have HSO : Hid _ := hSo
      have hil' : (i : Int) < (ls : Int) := by omega
      clear hSo hy hf
      go_wp2_with fail
      go_loopw [6, 7, 8] (fun vn vm vk wr => Hid (∃ k : Nat, k ≤ ls ∧ vk = .int .i64 k ∧ vn = .int .i64 ((ts.take k).countP f : Nat) ∧ vm = .int .i64 ((us3.take k).countP f : Nat) ∧ SL w wr gl c gs cs ls ts us3 fl fs)) (fun _ _ vk _ => ls - (intOf vk).toNat)
      case atStart => exact ⟨0, Nat.zero_le _, rfl, by simp, by simp, HSO.out⟩
      case round =>
        obtain ⟨k, hk, rfl, hvn, hvm, hS⟩ := hrel.out
        clear hrel HSO
        obtain ⟨P, hP⟩ : ∃ P, (ts.take k).countP f = P := ⟨_, rfl⟩
        obtain ⟨Q, hQ⟩ : ∃ Q, (us3.take k).countP f = Q := ⟨_, rfl⟩
        rw [hP] at hvn
        rw [hQ] at hvm
        subst hvn hvm
        have HPQ : Hid ((ts.take k).countP f = P ∧ (us3.take k).countP f = Q) := ⟨hP, hQ⟩
        have hP5 : P ≤ k := by rw [← hP]; exact Nat.le_trans List.countP_le_length (by simp; omega)
        have hQ5 : Q ≤ k := by rw [← hQ]; exact Nat.le_trans List.countP_le_length (by simp; omega)
        clear hP hQ
        by_cases hkl : k < ls
        · obtain ⟨x, hx⟩ : ∃ x, ts[k]? = some x := ⟨_, List.getElem?_eq_getElem (by rw [HN.out]; exact hkl)⟩
          obtain ⟨z, hz⟩ : ∃ z, us3[k]? = some z := ⟨_, List.getElem?_eq_getElem (by rw [HU.out.2.2.1]; exact hkl)⟩
          obtain ⟨xa, xl, xc, tx, rx⟩ := own_term hS.ol hx
          obtain ⟨za, zl, zc, tz, rz⟩ := own_term hS.os hz
          obtain ⟨ya, yl, yc, ty, ry⟩ := own_term hS.os HF.out.1
          have hxs := HSM.out x (List.mem_of_getElem? hx)
          have hzs := HU.out.2.2.2 z (List.mem_of_getElem? hz)
          have hys := HU.out.2.2.2 y (List.mem_of_getElem? HF.out.1)
          obtain ⟨b1, hb1⟩ : ∃ b, f x = b := ⟨_, rfl⟩
          obtain ⟨b2, hb2⟩ : ∃ b, f z = b := ⟨_, rfl⟩
          have HC1 : Hid (∀ V : World, Below wr.heap.size wr V → _) := fun V hV => same2 x y b1 (by rw [← hb1]; exact HF.out.2 x) hxs hys xa xl xc ya yl yc V (rx.later hV) (ry.later hV)
          have HC2 : Hid (∀ V : World, Below wr.heap.size wr V → _) := fun V hV => same2 z y b2 (by rw [← hb2]; exact HF.out.2 z) hzs hys za zl zc ya yl yc V (rz.later hV) (ry.later hV)
          have hP1 := count_next f ts k x hx
          have hQ1 := count_next f us3 k z hz
          rw [hb1, HPQ.out.1] at hP1
          rw [hb2, HPQ.out.2] at hQ1
          have HSW : Hid (∀ V : World, Below wr.heap.size wr V → SL w V gl c gs cs ls ts us3 fl fs) := fun V hV => hS.later hV
          have HTA : Hid (∀ V : World, Below wr.heap.size wr V → TermAt V gs k z (.slice za zl zc) ∧ TermAt V gs i y (.slice ya yl yc)) := fun V hV => ⟨tz.later hV, ty.later hV⟩
          obtain ⟨⟨x0, x1, x2, x3⟩, _⟩ := tx
          obtain ⟨⟨y0, y1, y2, y3⟩, _⟩ := ty
          clear tz rx rz ry hx hz hS hxs hzs hys hb1 hb2
          have hkl' : (k : Int) < (ls : Int) := by omega
          rcases b1 with _ | _ <;> rcases b2 with _ | _
          all_goals
            simp only [reduceIte, Nat.add_zero, Bool.false_eq_true] at hP1 hQ1
            have HP1 : Hid _ := hP1
            have HQ1 : Hid _ := hQ1
            clear hP1 hQ1
            have hn0 := After.some wr
            have px0 := After.cell x0
            have px1 := After.cell x1
            have px2 := After.cell x2
            have px3 := After.cell x3
            have py0 := After.cell y0
            have py1 := After.cell y1
            have py2 := After.cell y2
            have py3 := After.cell y3
            go_wp2_with fail
            refine wp_region_after (by kernel_rfl) (by kernel_rfl) ?_
            repeat (go_big_quiet_step ((go_at_call 31; exact calls_after (HC1.out _ (After.bel _)))))
            refine wpQuiet_nil ?_
            rintro _ ⟨nq, rfl⟩
            obtain ⟨V, hV⟩ : ∃ V, nq.now = V := ⟨_, rfl⟩
            have HBV : Hid (Below wr.heap.size wr V) := by rw [← hV]; exact nq.bel
            rw [hV]
            clear hV px0 px1 px2 px3 py0 py1 py2 py3 hn0 x0 x1 x2 x3 y0 y1 y2 y3 HC1
            obtain ⟨⟨⟨x0, x1, x2, x3⟩, _⟩, ⟨y0, y1, y2, y3⟩, _⟩ := HTA.out V HBV.out
            have HC3 : Hid (∀ U : World, Below V.heap.size V U → _) := fun U hU => HC2.out U (HBV.out.trans (hU.mono HBV.out.size))
            have hn0 := After.some V
            have px0 := After.cell x0
            have px1 := After.cell x1
            have px2 := After.cell x2
            have px3 := After.cell x3
            have py0 := After.cell y0
            have py1 := After.cell y1
            have py2 := After.cell y2
            have py3 := After.cell y3
            clear HC2 HTA
            go_wp2_with fail
            refine wp_region_after (by kernel_rfl) (by kernel_rfl) ?_
            repeat (go_big_quiet_step ((go_at_call 31; exact calls_after (HC3.out _ (After.bel _)))))
            refine wpQuiet_nil ?_
            rintro _ ⟨nq2, rfl⟩
            have HSF : Hid (SL w nq2.now gl c gs cs ls ts us3 fl fs) := HSW.out nq2.now (HBV.out.trans (nq2.bel.mono HBV.out.size))
            clear px0 px1 px2 px3 py0 py1 py2 py3 hn0 x0 x1 x2 x3 y0 y1 y2 y3 HC3 HSW HBV
            go_wp2_with fail
            go_roundw
            case rel => exact ⟨k + 1, by omega, by go_num, by first | (rw [HP1.out]; done) | (rw [HP1.out]; go_num), by first | (rw [HQ1.out]; done) | (rw [HQ1.out]; go_num), HSF.out⟩
            case measure => simp [intOf]; omega
        · obtain rfl : k = ls := by omega
          have hPQ : Q = P := by
            have h1 := HPQ.out.1
            have h2 := HPQ.out.2
            rw [List.take_of_length_le (by rw [HN.out]; exact Nat.le_refl _)] at h1
            rw [List.take_of_length_le (by rw [HU.out.2.2.1]; exact Nat.le_refl _)] at h2
            rw [← h1, ← h2]
            exact HU.out.1.countP_eq f
          subst hPQ
          have hQ0 : 0 < Q := by
            have h2 := HPQ.out.2
            rw [List.take_of_length_le (by rw [HU.out.2.2.1]; exact Nat.le_refl _)] at h2
            rw [← h2]
            exact List.countP_pos_iff.2 ⟨y, List.mem_of_getElem? HF.out.1, (HF.out.2 y).2 rfl⟩
          have hkd : decide ((k : Int) < (k : Int)) = false := by simp
          have hq0 : ((Q : Int) == 0) = false := by simp; omega
          have hq1 : (Q == 0) = false := by simp; omega
          have hqq : ((Q : Int) != (Q : Int)) = false := by simp
          have HSW : Hid (∀ V : World, Below wr.heap.size wr V → SL w V gl c gs cs k ts us3 fl fs) := fun V hV => hS.later hV
          have hn0 := After.some wr
          by_cases hi0 : 0 < i
          · obtain ⟨ip, rfl⟩ : ∃ ip, i = ip + 1 := ⟨i - 1, by omega⟩
            obtain ⟨x, hx⟩ : ∃ x, us3[ip]? = some x := ⟨_, List.getElem?_eq_getElem (by rw [HU.out.2.2.1]; omega)⟩
            obtain ⟨xa, xl, xc, tx, rx⟩ := own_term hS.os hx
            obtain ⟨ya, yl, yc, ty, ry⟩ := own_term hS.os HF.out.1
            have hnl : ¬ Lt 2 y x := HU.out.2.1 ip (ip + 1) x y (by omega) (by omega) hx HF.out.1
            have HC1 : Hid (∀ V : World, Below wr.heap.size wr V → _) := fun V hV => less2 y x false ⟨(fun h => by cases h), fun h => absurd h hnl⟩ (HU.out.2.2.2 y (List.mem_of_getElem? HF.out.1)) (HU.out.2.2.2 x (List.mem_of_getElem? hx)) ya yl yc xa xl xc V (ry.later hV) (rx.later hV)
            obtain ⟨⟨x0, x1, x2, x3⟩, _⟩ := tx
            obtain ⟨⟨y0, y1, y2, y3⟩, _⟩ := ty
            have px0 := After.cell x0
            have px1 := After.cell x1
            have px2 := After.cell x2
            have px3 := After.cell x3
            have py0 := After.cell y0
            have py1 := After.cell y1
            have py2 := After.cell y2
            have py3 := After.cell y3
            have hwp : IntKind.i64.wrap (ip : Int) = (ip : Int) := by rw [IntKind.wrap_i64]; omega
            have jz1 : (ip : Int) < (k : Int) := by omega
            have p0 : (0 : Int) < (ip : Int) + 1 := by omega
            have p1 : (0 : Int) ≤ (ip : Int) + 1 := by omega
            have e0 : ((ip : Int) + 1).toNat = ip + 1 := by omega
            clear rx ry hx hS hnl
            go_wp2_with fail
            refine wp_region_after (by kernel_rfl) (by kernel_rfl) ?_
            repeat (go_big_quiet_step ((go_at_call 32; exact calls_after (HC1.out _ (After.bel _)))))
            refine wpQuiet_nil ?_
            rintro _ ⟨nq, rfl⟩
            have HSF : Hid _ := HSW.out nq.now nq.bel
            clear px0 px1 px2 px3 py0 py1 py2 py3 hn0 x0 x1 x2 x3 y0 y1 y2 y3 HC1 HSW
            go_wp2_with fail
            go_roundw
            case rel => exact ⟨ip + 1 + 1, by omega, by go_num, HSF.out⟩
            case measure => simp [intOf]; omega
          · have hd1 : decide ((0 : Int) < (i : Int)) = false := by simp; omega
            have hd2 : decide (0 < i) = false := by simp; omega
            clear hS
            go_wp2_with fail
            refine wp_region_after (by kernel_rfl) (by kernel_rfl) ?_
            repeat (go_big_quiet_step (fail))
            refine wpQuiet_nil ?_
            rintro _ ⟨nq, rfl⟩
            have HSF : Hid _ := HSW.out nq.now nq.bel
            clear hn0 HSW
            go_wp2_with fail
            go_roundw
            case rel => exact ⟨i + 1, by omega, by go_num, HSF.out⟩
            case measure => simp [intOf]; omega
    · have HB : Hid (Below w.heap.size w wo) := hSo.b
      have hil' : decide ((i : Int) < (ls : Int)) = false := by simp; omega
      clear hSo
      go_wp2_with fail
      go_ret
      exact ⟨rfl, HB.out⟩

set_option maxRecDepth 100000 in
theorem lifted (os : Os) (started : os.Started) (H : Type) (enc : TypeId × Value → H) :
    ReturnsInHanded {} Try.checked os 8 .any (Rows.fnSortedSpec.pre6 enc Try.prog Try.f8 Rows.fnSortedRow.domain false) (Rows.fnSortedSpec.post enc Try.prog Try.f8 false true false false) := by
  refine returnsInHanded_of_change (C := Try.checked) own started (by kernel_rfl) Try.func8
    (ChangeSpec.witness6 (enc := enc) (C := Try.checked) false ⟨#[], #[.slice none 0 0], []⟩ 8 (by kernel_rfl) (by kernel_rfl) (by kernel_rfl) (by kernel_rfl)) ?_
  intro W base args ds gs before hval0 hW hcnd _
  have hval : ∀ (j : Nat) t v, Try.f8.params[j]? = some t → args[j]? = some v → Value.okWide Try.prog W .any base t v := hval0
  have hW' := hW
  obtain ⟨p, q, hA0, hV, rfl, hfz, hnd⟩ := hW
  have hA : DataW.TrodAll enc Try.prog W 0 (fun _ => true) true Try.f8.params.toList args.toList ds p := hA0
  rw [Try.params8] at hA hval
  obtain ⟨v0, vs0, d0, ds0, p0, q0, hargs, rfl, rfl, h0, rr0⟩ := trodAll_cons hA
  obtain ⟨rfl, rfl, rfl⟩ := trodAll_nil rr0
  obtain rfl : args = #[v0] := by cases args; simp_all
  obtain ⟨rfl, rfl⟩ := trodVars_none hV
  obtain ⟨a0, len0, cap0, rfl⟩ := okWide_slice Try.underlying34 (hval 0 34 v0 rfl rfl)
  have k0 := h0
  have lt0 : ∀ x ∈ p0, x.block < W.heap.size := by obtain ⟨m, hm⟩ := k0; exact DataW.trod_lt m _ _ _ hm
  obtain ⟨z0, w0⟩ : ∃ zs, IsRow .u8 W a0 len0 cap0 zs := by
    obtain ⟨fuel, hf⟩ := h0
    rcases open_ints Try.underlying34 Try.underlying5 (by kernel_rfl) hf with ⟨hcs, _⟩ | ⟨x, l, c, zs, hcs, _, hl, hm, hz, _, hcell, hwz⟩
    · simp [Value.cells] at hcs
      obtain ⟨rfl, rfl, rfl⟩ := hcs
      exact ⟨[], .inl ⟨rfl, rfl, rfl, rfl⟩⟩
    · simp [Value.cells] at hcs
      obtain ⟨rfl, rfl, rfl⟩ := hcs
      exact ⟨zs, .inr ⟨_, rfl, hl, hm, by simpa using hz, hcell, hwz⟩⟩

  clear hA0 hval0
  refine (walk W a0 len0 cap0 z0 w0).mono fun e W' ⟨he, bel⟩ => ?_
  subst he
  exact ⟨_, rfl, _, _, _, [], _, [], hW', trodAll_mk1 (shut_bool Try.underlying4 _), (trodAll_cons_mk (Below.trod laidOut (by kernel_rfl) (of_decide_eq_true (by kernel_rfl)) k0 bel lt0) trodAll_mk0), rfl, bel.frame _, fun h => by cases h⟩

theorem over : Rows.fnSortedRow.holds Try.pinned (OpenSpec.ofChange Rows.fnSortedSpec) :=
  OpenClaim.holds_of_wide 8 Try.f8 rfl rfl rfl rfl rfl rfl rfl ⟨rfl, rfl, rfl, rfl, rfl⟩ rfl rfl rfl rfl rfl (by kernel_rfl) Try.func8 (by kernel_rfl)
    (of_decide_eq_true (by kernel_rfl)) (by unfold Func.isWrapper; first | (rw [if_pos (by decide +kernel)]; kernel_rfl) | (rw [if_neg (by decide +kernel)]; exact ⟨rfl, rfl⟩))
    (fun os started H enc _ => lifted os started H enc)

end Go.Proofs.Ytjdhkhpdhblhbaa.fnSorted
namespace Go.Proofs.Ytjdhkhpdhblhbaa
/-- THE STATEMENT. -/
theorem fnSorted_said : Rows.FnSortedSaid := fnSorted.over
#print axioms fnSorted_said
end Go.Proofs.Ytjdhkhpdhblhbaa
