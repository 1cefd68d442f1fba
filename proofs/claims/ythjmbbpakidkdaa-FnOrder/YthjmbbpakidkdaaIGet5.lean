/- The program's reading of a term, on: its parts. -/
import Derived.Test.YthjmbbpakidkdaaIGet4
namespace Go.Proofs.Ythjmbbpakidkdaa
open Go.RowKit
set_option linter.unusedVariables false

/-- Where the reading of parts stands behind j of them. -/
def Mid (m B p b off n cap : Nat) (zs : List Int) (x q : Int) (w1 wr : World) (v : Value) (j : Nat) : Prop :=
  ∃ (at2 : Int) (bad2 : Bool), Rdr wr p b off n cap zs at2 bad2 ∧ Turned p w1 wr ∧ (∃ cs, wr.ownsRow B 26 4 v j cs) ∧
    (bad2 = false → ∃ (ts : List (Tm m)) (fp : List Nat), ts.length = j ∧ Made m B wr v ts fp ∧ CameL zs m j q ts at2 ∧ q + j ≤ at2 ∧ at2 ≤ n) ∧ (bad2 = true → getL (getT zs m) x.toNat q = none)

/-- One more of them. -/
theorem mid_step {m p b off n cap : Nat} {zs : List Int} {x q at2 : Int} {w1 wr w' w2 : World} {v v' : Value} {j : Nat} {ts : List (Tm m)} {fp : List Nat} {k y : Int} {s : ByteArray} {a : Option Addr} {l c : Nat} {cs : List Value}
    (hB : Bts n cap zs) (hpB : p < w1.heap.size) (hbB : 0 < n → b < w1.heap.size) (hr : Rdr wr p b off n cap zs at2 false) (ht : Turned p w1 wr) (hj : ts.length = j) (hM : Made m w1.heap.size wr v ts fp) (hcs : wr.ownsRow w1.heap.size 26 4 v j cs) (hC : CameL zs m j q ts at2) (hq : q + j ≤ at2) (hqn : at2 ≤ n) (hq0 : 0 ≤ q) (hjx : (j : Int) < x)
    (hP : Post m wr w' p b off n cap zs at2 (.agg #[.int .i64 k, .int .i64 y, .string s, .slice a l c]))
    (hown : w2.ownsRow w1.heap.size 26 4 v' (j + 1) (cs ++ [.int .i64 k, .int .i64 y, .string s, .slice a l c])) (hgr : (w'.alloc (.cells #[.int .i64 k, .int .i64 y, .string s, .slice a l c] 26)).grownBy w2 v.ownBlock)
    (hat : v'.ownBlock = v.ownBlock ∨ v'.ownBlock = some (w'.alloc (.cells #[.int .i64 k, .int .i64 y, .string s, .slice a l c] 26)).heap.size) : Mid m w1.heap.size p b off n cap zs x q w1 w2 v' (j + 1) := by
  obtain ⟨at3, bad3, h1, h2, h3, h4⟩ := hP
  obtain ⟨V, hV⟩ : ∃ V, V = w'.alloc (.cells #[.int .i64 k, .int .i64 y, .string s, .slice a l c] 26) := ⟨_, rfl⟩
  rw [← hV] at hgr hat
  have hA : Below w'.heap.size w' V := by rw [hV]; exact (Below.refl _ _).alloc (Nat.le_refl _) _
  have hz0 := ht.size
  have hz1 := h2.size
  have hz2 := hA.size
  have hz3 := hgr.size
  have hob : ∀ g, v.ownBlock = some g → w1.heap.size ≤ g ∧ g < wr.heap.size := fun g hg => by
    rcases hcs.2 with ⟨e, _⟩ | ⟨g', c', cur, e1, e2, e3, _⟩
    · rw [e] at hg; cases hg
    · rw [e1] at hg
      obtain rfl : g' = g := by simpa [Value.ownBlock] using hg
      exact ⟨e2, Nat.lt_of_not_le fun hn => by rw [Array.getElem?_eq_none hn] at e3; cases e3⟩
  have hpw := h1.lt
  have hk : ∀ g, g < w'.heap.size → some g ≠ v.ownBlock → w2.heap[g]? = w'.heap[g]? := fun g hg hn => (hgr.block g (by omega) hn).trans (hA.block g hg)
  have hno : ∀ g, g < w1.heap.size → some g ≠ v.ownBlock := fun g hg e => by have := (hob g e.symm).1; omega
  have hR2 : Rdr w2 p b off n cap zs at3 bad3 := ⟨(hk p hpw (hno p hpB)).trans h1.heap, fun i hi => by
    have hb := hbB (by omega)
    rw [World.cell?_of_block (a := ⟨b, off + i, none⟩) (hk b (by omega) (hno b hb))]
    exact h1.row i hi, h1.ne⟩
  have hT2 : Turned p w1 w2 := ⟨hgr.os.trans (hA.os.trans (h2.os.trans ht.os)), hgr.tape.trans (hA.tape.trans (h2.tape.trans ht.tape)), hgr.output.trans (hA.output.trans (h2.output.trans ht.output)), by omega,
    fun g hg hn => (hk g (by omega) (hno g hg)).trans ((h2.block g (by omega) hn).trans (ht.block g hg hn))⟩
  refine ⟨at3, bad3, hR2, hT2, ⟨_, hown⟩, fun hb => ?_, fun hb => ?_⟩
  · obtain ⟨t, f, q1, q2, q3, q4, q5, q6⟩ := h3 hb
    cases m with
    | zero => exact False.elim q1
    | succ m =>
      obtain ⟨a', l', c', ev, q1⟩ := q1
      obtain ⟨cs', fps, r1, r2, r3, r4, r5, r6⟩ := hM
      have hcc : cs' = cs := by
        rw [hj] at r1
        rcases r1.2 with ⟨e1, e2⟩ | ⟨g1, c1, cur1, e1, _, e3, _, _, _, e7⟩
        · have l1 := r1.1
          have l2 := hcs.1
          rw [e2] at l1 l2
          rw [List.length_eq_zero_iff.1 (show cs'.length = 0 by omega), List.length_eq_zero_iff.1 (show cs.length = 0 by omega)]
        · rcases hcs.2 with ⟨d1, d2⟩ | ⟨g2, c2, cur2, d1, _, d3, _, _, _, d7⟩
          · rw [d1] at e1; cases e1
          · rw [d1] at e1
            simp only [Value.slice.injEq, Option.some.injEq, Addr.mk.injEq, and_true, true_and] at e1
            obtain ⟨rfl, rfl⟩ := e1
            rw [e3] at d3
            simp only [Option.some.injEq, Obj.cells.injEq, and_true] at d3
            subst d3
            rw [← e7, ← d7]
      subst hcc
      simp only [Value.agg.injEq] at ev
      have ev2 : ([.int .i64 k, .int .i64 y, .string s, .slice a l c] : List Value) = [.int .i64 t.K, .int .i64 t.N, .string t.S, .slice a' l' c'] := by simpa using congrArg Array.toList ev
      rw [ev2] at hown
      subst hj
      have kp : ∀ g, g < wr.heap.size → g ≠ p → V.heap[g]? = wr.heap[g]? := fun g hg hn => (hA.block g (by omega)).trans (h2.block g hg hn)
      subst r3
      have hF : Fresh w1.heap.size V (v.ownBlock.toList ++ fps.flatten) := ⟨r4.1, fun g hg => ⟨(r4.2 g hg).1, by have := (r4.2 g hg).2; omega⟩⟩
      have hpn : ∀ g ∈ v.ownBlock.toList ++ fps.flatten, V.heap[g]? = wr.heap[g]? := fun g hg => kp g (r4.2 g hg).2 (by have := (r4.2 g hg).1; omega)
      obtain ⟨fp', hm, _⟩ := made_step (w := V) (t := t) (f := f) (rowKept r1 fun g hg => hpn g (List.mem_append_left _ (by rw [hg]; exact List.mem_singleton.2 rfl))) r2 hF r5 (r6.frame fun g hg => hpn g (List.mem_append_right _ hg))
        (q1.frame fun g hg => hA.block g (q2.2 g hg).2) ⟨q2.1, fun g hg => ⟨by have := (q2.2 g hg).1; omega, by have := (q2.2 g hg).2; omega⟩⟩ (fun g hg hf => by have := (q2.2 g hg).1; have := (r4.2 g hf).2; omega) q3 (by have := hB.le; omega) (by omega) hown hgr hat
      exact ⟨ts ++ [t], fp', by simp, hm, came_step hC q4, by omega, q6⟩
  · exact getL_none (came_fail hC (h4 hb)) (by omega)

theorem four_new (w : World) (a b c d : Value) (t : TypeId) : ∀ j u, [a, b, c, d][j]? = some u → (w.alloc (.cells #[a, b, c, d] t)).cell? ((⟨w.heap.size, 0, none⟩ : Addr).add j) = some u := by
  intro j u hj
  match j, hj with
  | 0, hj => simp at hj; subst hj; simp [Addr.add]
  | 1, hj => simp at hj; subst hj; simp [Addr.add]
  | 2, hj => simp at hj; subst hj; simp [Addr.add]
  | 3, hj => simp at hj; subst hj; simp [Addr.add]

theorem lt_of_row' {w : World} {g : Nat} {o : Obj} (h : w.heap[g]? = some o) : g < w.heap.size := Nat.lt_of_not_le fun hn => by rw [Array.getElem?_eq_none hn] at h; cases h

theorem row_slice {w : World} {B e z n : Nat} {v : Value} {xs : List Value} (h : w.ownsRow B e z v n xs) : ∃ a l c, v = .slice a l c := by
  rcases h.2 with ⟨e, _⟩ | ⟨g, c, cur, e1, _⟩
  · exact ⟨_, _, _, e⟩
  · exact ⟨_, _, _, e1⟩

set_option maxHeartbeats 2000000 in
theorem readParts_of (m : Nat) (hm : m ≤ 8) (H : RTC m) : RPC m := by
  intro p b off n cap zs at_ w hB hr
  have HBT : Hid (Bts n cap zs) := hB
  have HRD : Hid (Rdr w p b off n cap zs at_ false) := hr
  obtain ⟨dp, hdp⟩ : ∃ dp : Int, 9 - (m : Int) = dp := ⟨_, rfl⟩
  have HI : Hid (∀ (at_ : Int) (w : World), Rdr w p b off n cap zs at_ false →
      Calls Try.prog 73 #[.pointer (some ⟨p, 0, none⟩), .int .i64 dp] w fun e w' => ∃ k x s a l c, e = .returned (.agg #[.int .i64 k, .int .i64 x, .string s, .slice a l c]) ∧ Hid (Post m w w' p b off n cap zs at_ (.agg #[.int .i64 k, .int .i64 x, .string s, .slice a l c]))) := fun at_ w h => by
    rw [← hdp]
    exact H p b off n cap zs at_ w hB h
  rw [hdp]
  clear hdp H
  by_cases hg : (getNum zs at_).2.2 = true
  case neg =>
    have hC := num_bad p b off n cap zs at_ w hB hr hg
    have HN : Hid (¬ (getNum zs at_).2.2 = true) := hg
    clear hr hB hg HBT HRD HI
    go_enter Try.func174, Try.ntmps174
    go_wp2_with fail
    refine hC.mono ?_
    clear hC
    rintro e w1 ⟨rfl, hr1, ht1⟩
    have HP : Hid (Rdr w1 p b off n cap zs at_ true ∧ Turned p w w1) := ⟨hr1, ht1⟩
    clear hr1 ht1
    go_wp2_with fail
    refine wp_loop_rounds 1 ?_
    rw [rounds_succ]
    go_wp2_with fail
    go_ret
    exact ⟨none, 0, 0, rfl, ⟨at_, true, HP.out.1, HP.out.2, (fun e => Bool.noConfusion e), fun _ h => absurd h HN.out⟩⟩
  obtain ⟨x, q, hgx⟩ : ∃ x q, getNum zs at_ = (x, q, true) := ⟨(getNum zs at_).1, (getNum zs at_).2.1, by rw [← hg]⟩
  have hlt := getNum_lt zs at_ hg
  have hq0 := ((getNum_bd zs at_).1 hg).1
  rw [hgx] at hlt hq0
  obtain ⟨hq, hqn, hx0, hx1⟩ : at_ < q ∧ q ≤ zs.length ∧ -1000000000000 ≤ x ∧ x ≤ 1000000000000 := hlt
  have hq0 : 0 < q := hq0
  have HG : Hid (getNum zs at_ = (x, q, true)) := hgx
  have hC := num_ok p b off n cap zs at_ x q w hB hr hgx
  have hqn' : q ≤ n := by have := hB.len; omega
  clear hg hgx hr hB hqn
  go_enter Try.func174, Try.ntmps174
  go_wp2_with fail
  refine hC.mono ?_
  clear hC
  rintro e w1 ⟨rfl, hr1, ht1⟩
  have HR1 : Hid (Rdr w1 p b off n cap zs q false) := hr1
  have HT1 : Hid (Turned p w w1) := ht1
  by_cases hxn : x < 0
  · have z1 : w1.frozen? ⟨p, 2, none⟩ = false := frozen_of_row w1 _ _ _ _ hr1.heap
    have c2 : w1.cell? ⟨p, 2, none⟩ = some (.bool false) := by rw [cell_of_row w1 _ 2 _ _ _ hr1.heap]; rfl
    have HP : Hid (Rdr (w1.setCell ⟨p, 2, none⟩ (.bool true)) p b off n cap zs q true ∧ Turned p w (w1.setCell ⟨p, 2, none⟩ (.bool true))) := ⟨hr1.spoil, ht1.trans (Turned.of_set _ _ _ _)⟩
    have HX : Hid (0 ≤ (getNum zs at_).1 → False) := fun h => by rw [HG.out] at h; have : 0 ≤ x := h; omega
    clear hr1 ht1
    go_wp2_with fail
    refine wp_loop_rounds 1 ?_
    rw [rounds_succ]
    go_wp2_with fail
    go_ret
    exact ⟨none, 0, 0, rfl, ⟨q, true, HP.out.1, HP.out.2, (fun e => Bool.noConfusion e), fun _ _ h => (HX.out h).elim⟩⟩
  have hx0' : 0 ≤ x := by omega
  have hpz := hr1.lt
  have hbz : 0 < n → b < w1.heap.size := fun h => hr1.blt h
  have HBZ : Hid (0 < n → b < w1.heap.size) := hbz
  clear hr1 ht1 hbz
  go_wp2_with fail
  go_loopw [6, 7] (fun v i wr => ∃ j : Nat, (j : Int) ≤ x ∧ i = .int .i64 j ∧ Hid (Mid m w1.heap.size p b off n cap zs x q w1 wr v j)) (fun _ i _ => x.toNat - (intOf i).toNat)
  case atStart => exact ⟨0, by omega, rfl, q, false, HR1.out, Turned.refl _ _, ⟨[], rfl, .inl ⟨rfl, rfl⟩⟩, fun _ => ⟨[], [], rfl, made_nil m _ _, .inl rfl, by omega, hqn'⟩, fun e => Bool.noConfusion e⟩
  case round =>
    obtain ⟨j, hjx, rfl, HM⟩ := hrel
    obtain ⟨at2, bad2, hr2, ht2, ⟨cs, hcs⟩, hg2, hb2⟩ := HM.out
    have c2 : wr.cell? ⟨p, 2, none⟩ = some (.bool bad2) := by rw [cell_of_row wr _ 2 _ _ _ hr2.heap]; rfl
    cases bad2
    · obtain ⟨ts, fp, hj, hMd, hCm, hqj, hat2⟩ := hg2 rfl
      by_cases hlt : (j : Int) < x
      · have hC := HI.out at2 wr hr2
        have HMS : Hid (∀ (k y : Int) (s : ByteArray) (a : Option Addr) (l c : Nat) (w' w2 : World) (v' : Value), Post m wr w' p b off n cap zs at2 (.agg #[.int .i64 k, .int .i64 y, .string s, .slice a l c]) →
            w2.ownsRow w1.heap.size 26 4 v' (j + 1) (cs ++ [.int .i64 k, .int .i64 y, .string s, .slice a l c]) → (w'.alloc (.cells #[.int .i64 k, .int .i64 y, .string s, .slice a l c] 26)).grownBy w2 (Value.ownBlock u6) →
            (v'.ownBlock = Value.ownBlock u6 ∨ v'.ownBlock = some (w'.alloc (.cells #[.int .i64 k, .int .i64 y, .string s, .slice a l c] 26)).heap.size) → Mid m w1.heap.size p b off n cap zs x q w1 w2 v' (j + 1)) :=
          fun k y s a l c w' w2 v' g1 g2 g3 g4 => mid_step HBT.out hpz HBZ.out hr2 ht2 hj hMd hcs hCm hqj hat2 (by omega) hlt g1 g2 g3 g4
        have hcs2 : ∀ w', Turned p wr w' → w'.ownsRow w1.heap.size 26 4 u6 j cs := fun w' h => rowKept hcs fun g hg => by
          rcases hcs.2 with ⟨e, _⟩ | ⟨g', c', cur, e1, e2, e3, _⟩
          · rw [e] at hg; cases hg
          · rw [e1] at hg
            obtain rfl : g' = g := by simpa [Value.ownBlock] using hg
            exact h.block g' (lt_of_row' e3) (by omega)
        have HCS : Hid (∀ w', Turned p wr w' → w'.ownsRow w1.heap.size 26 4 u6 j cs) := hcs2
        have hjn : j ≤ 1048576 := by have := HBT.out.le; omega
        have hz1 : w1.heap.size ≤ wr.heap.size := ht2.size
        obtain ⟨i0, hi, hi0, hi1, hi2⟩ := info_parts Try.infoTerm
        clear hcs2 hg2 hb2 hMd hCm hcs hr2 ht2 hj HM hqj hat2
        go_wp2_with fail
        refine hC.mono ?_
        clear hC
        rintro e w' ⟨k, y, s, a, l, c, rfl, HP⟩
        have hT' : Turned p wr w' := by obtain ⟨_, _, _, h, _⟩ := HP.out; exact h
        have hown := HCS.out w' hT'
        have hz2 := hT'.size
        clear hT' HCS c2
        go_wp2_with (at_builtin; refine wpList_append_own_at _ rfl (.tmp 27) (.tmp 31) 24 rfl w1.heap.size 26 i0 (.agg #[.int .i64 0, .int .i64 0, .string ⟨#[]⟩, .slice none 0 0]) 4 56 Try.underlying24 hi hi0 hi1 hi2 rfl (by decide) _ _ _ rfl (hown.alloc _) ⟨w'.heap.size, 0, none⟩ 1 1 [.int .i64 k, .int .i64 y, .string s, .slice a l c] rfl rfl ?c1 ?c2 ?c3 ?c4 ?c5 ?_)
        case c1 => exact four_new _ _ _ _ _ _
        case c2 => intro u hu; simp at hu; rcases hu with rfl | rfl | rfl | rfl <;> rfl
        case c3 => unfold maxLen; omega
        case c4 => omega
        case c5 => simp; omega
        intro v' w2 hown2 hgrow2 _ hat
        have HM2 : Hid (Mid m w1.heap.size p b off n cap zs x q w1 w2 v' (j + 1)) := HMS.out k y s a l c w' w2 v' HP.out hown2 hgrow2 (by simpa using hat)
        clear hown hown2 hgrow2 hat HP HMS
        go_wp2_with fail
        go_roundw
        case rel => exact ⟨j + 1, by omega, by go_num, HM2⟩
        case measure => simp [intOf]; omega
      · have hjx2 : (j : Int) = x := by omega
        obtain ⟨a, l, c, fp', hv, q1, q2, q3⟩ := hMd.own
        have HP : Hid (PPost m w wr p b off n cap zs at_ a l c) := ⟨at2, false, hr2, HT1.out.trans ht2, fun _ => ⟨x, q, ts, fp', HG.out, hx0', by omega, by rw [← hv]; exact q1, ⟨q2.1, fun g hg => ⟨Nat.le_trans HT1.out.size (q2.2 g hg).1, (q2.2 g hg).2⟩⟩, q3, by rw [← hjx2, Int.toNat_natCast]; exact hCm, by omega, hat2⟩, fun e => Bool.noConfusion e⟩
        subst hv
        have hlt' : decide ((j : Int) < x) = false := by simp; omega
        clear hg2 hb2 hMd hCm hcs hr2 ht2 hj HM q1 q2 q3
        go_wp2_with fail
        go_ret
        exact ⟨a, l, c, rfl, HP⟩
    · have hnone := hb2 rfl
      obtain ⟨a, l, c, hv⟩ := row_slice hcs
      have HP : Hid (PPost m w wr p b off n cap zs at_ a l c) := ⟨at2, true, hr2, HT1.out.trans ht2, (fun e => Bool.noConfusion e), fun _ _ _ => by rw [HG.out]; exact hnone⟩
      subst hv
      clear hg2 hb2 hcs hr2 ht2 HM hnone
      by_cases hlt : (j : Int) < x
      · go_wp2_with fail
        go_ret
        exact ⟨a, l, c, rfl, HP⟩
      · go_wp2_with fail
        go_ret
        exact ⟨a, l, c, rfl, HP⟩

theorem readTerm_any : ∀ m, m ≤ 8 → RTC m := by
  intro m
  induction m with
  | zero => intro _; exact readTerm_zero
  | succ m ih => intro hm; exact readTerm_of m (by omega) (readForm_of m (by omega) (readParts_of m (by omega) (ih (by omega))))

end Go.Proofs.Ythjmbbpakidkdaa
