/- The program's FreeOf: a name is told. -/
import Derived.Test.YtpokheklplcamaaFr1M
import Derived.Test.YtpokheklplcamaaNm2M
import Derived.Deep.DeepCutAuto
import Derived.Test.YtpokheklplcamaaSa6M
import Derived.BigQuiet
import Derived.Test.YtpokheklplcamaaQTailM
import Derived.Test.YtpokheklplcamaaRLawM
namespace Go.Proofs.Ytpokheklplcamaa
open Go.RowKit
set_option linter.unusedVariables false

theorem tellX_no {b out : List ByteArray} {k : Int} {s : ByteArray} (h : ¬ (k = 3 ∧ ¬ s ∈ b ∧ ¬ s ∈ out)) : tellX b out k s = out := by unfold tellX; rw [if_neg h]
theorem tellX_yes {b out : List ByteArray} {s : ByteArray} (h1 : ¬ s ∈ b) (h2 : ¬ s ∈ out) : tellX b out 3 s = out ++ [s] := by unfold tellX; rw [if_pos ⟨rfl, h1, h2⟩]

set_option maxRecDepth 100000 in
set_option maxHeartbeats 4000000 in
theorem tell_any {W wr : World} {q nt nb : Nat} {nv sv uv : Value} {acc cb : List ByteArray} {f : Addr → Int → Option Value} {ss : List Sc} {fs : List Fs} {K : List (Nat × Obj)} (h : Fw W wr q nt nb nv sv uv acc acc cb f ss fs K) (s : ByteArray) (hs : s.size ≤ 1048576) (hnt : nt ≤ 100000000) (ha : acc.length ≤ 100000000) :
    Calls Try.prog 61 #[.pointer (some ⟨q + 3, 0, none⟩), .string s] wr fun e w' => e = .returned (.tuple #[]) ∧ Hid (∃ nt' nv', nt' ≤ nt + 1 ∧ Fw W w' q nt' nb nv' sv uv (tellX cb acc 3 s) (tellX cb acc 3 s) cb f ss fs K) := by
  have hsm : s.size ≤ maxLen := by unfold maxLen; omega
  obtain ⟨c0, c1, c2, _, _, _, z⟩ := h.cells
  have HF : Hid (Fw W wr q nt nb nv sv uv acc acc cb f ss fs K) := h
  by_cases hb : s ∈ cb
  · have hl := h.bound.look_yes hsm hb
    rw [tellX_no (fun e => e.2.1 hb)]
    clear h hb z
    go_enter Try.func61, Try.ntmps61
    go_wp2_with fail
    ((try simp only [Exit.inBlock, Exit.then]); refine bodyPost_ret (results_none rfl _ _ _) rfl ?_)
    exact ⟨rfl, nt, nv, by omega, HF.out⟩
  · have hl := h.bound.look_no hsm hb
    by_cases ht : s ∈ acc
    · have hl2 := h.told.look_yes hsm ht
      rw [tellX_no (fun e => e.2.2 ht)]
      clear h hb ht z
      go_enter Try.func61, Try.ntmps61
      go_wp2_with fail
      ((try simp only [Exit.inBlock, Exit.then]); refine bodyPost_ret (results_none rfl _ _ _) rfl ?_)
      exact ⟨rfl, nt, nv, by omega, HF.out⟩
    · have hl2 := h.told.look_no hsm ht
      rw [tellX_yes hb ht]
      have HCLN := cloneT_any s wr (by omega)
      obtain ⟨⟨na, nc, rfl⟩, _, _⟩ := h.few
      clear h hb ht z
      go_enter Try.func61, Try.ntmps61
      go_wp2_with fail
      refine HCLN.mono ?_
      clear HCLN hl hl2
      rintro _ w1 ⟨rfl, hb1⟩
      have h1 := HF.out.later hb1
      obtain ⟨w2, hrun, htm, htu⟩ := h1.told.store (by unfold maxLen; omega) s hsm
      have h2 := h1.toldPut (tl' := acc ++ [s]) htu (htm.alike (Nat.le_refl _) (fun x => by rw [List.mem_append, List.mem_singleton]; exact or_comm))
      obtain ⟨d0, d1, d2, _, _, _, dz⟩ := h1.cells
      obtain ⟨e0, e1, e2, _, _, _, ez⟩ := h2.cells
      have z0 := ez 0
      have HF2 : Hid (Fw W w2 q (nt + 1) nb _ sv uv acc (acc ++ [s]) cb f ss fs K) := h2
      have HRW : Hid (w2.ownsRow (q + 4) 9 1 _ acc.length (acc.map Value.string)) := h2.names
      have hsz := h2.sz
      obtain ⟨s0, hs0, hs1, hs2, hs3⟩ := info_parts Try.infoStr
      clear h1 h2 htm htu c0 c1 c2 ez dz hb1
      go_wp2_with (at_builtin; (refine wpList_append_own_at _ rfl _ _ 29 rfl (q + 4) 9 s0 (.string ⟨#[]⟩) 1 16 Try.underlying29 hs0 hs1 hs2 hs3 rfl (by decide) _ _ _ rfl (HRW.out.alloc _) ⟨w2.heap.size, 0, none⟩ 1 1 ([s].map Value.string) rfl rfl (new_one (.string s) 9 rfl) (by intro u hu; simp at hu; subst hu; rfl) (by unfold maxLen; omega) (by omega) (by simp <;> omega) ?_; intro v' X hown5 hgrow5 _ hat5; obtain ⟨xa, xl, xc, rfl⟩ := row_slice hown5; have HX : Hid _ := (HF2.out.later ((Below.refl _ _).alloc (Nat.le_refl _) (.cells #[.string s] 9))).put_names (acc' := acc ++ [s]) (by simpa using hown5) hgrow5 hat5; have hr5 := (HF2.out.later ((Below.refl _ _).alloc (Nat.le_refl _) (.cells #[.string s] 9))).rowTo_names hgrow5; have x0 : X.cell? ⟨q + 3, 0, none⟩ = some (.slice na acc.length nc) := (by rw [cell_of_row X _ 0 _ _ _ hr5]; rfl); have y0 : X.frozen? ⟨q + 3, 0, none⟩ = false := frozen_of_row X _ _ _ _ hr5; clear hown5 hgrow5 hat5 hr5))
      go_end0
      exact ⟨rfl, nt + 1, _, Nat.le_refl _, HX.out⟩

end Go.Proofs.Ytpokheklplcamaa

/- The program's FreeOf: a clause is left. -/
namespace Go.Proofs.Ytpokheklplcamaa
open Go.RowKit
set_option linter.unusedVariables false

theorem Try.infoScope : (Try.prog.info? 152).map (fun i => (i.zero, i.size, i.bytes)) = some (some (.agg #[.pointer none, .int .i64 0, .slice none 0 0]), 3, 40) := by kernel_rfl
theorem eqPtrScope (w : World) (x y : Addr) (hx : Plain w x) (hy : Plain w y) (d : Nat) : (Op.equalIn (d + 1) 149 (.pointer (some x)) (.pointer (some y))).run Try.prog w = .ok (decide (x = y)) w := by
  obtain ⟨i0, hi, hi0, hi1, hi2⟩ := info_parts Try.infoScope
  by_cases h : x = y
  · subst h
    simp [Op.equalIn, run_underlying Try.underlying149, sizeOf, typeInfo, hi, run_sameAddr_same]
  · obtain ⟨c1, t1, h1⟩ := hx
    obtain ⟨c2, t2, h2⟩ := hy
    have hz : i0.size ≠ 0 := by rw [hi1]; decide
    simp [Op.equalIn, run_underlying Try.underlying149, sizeOf, typeInfo, hi, hz, run_sameAddr_other w h h1 h2, h]
theorem eqScope (w : World) (x y : Addr) (hx : Plain w x) (hy : Plain w y) : (binOp BinOp.eql 149 (.pointer (some x)) (.pointer (some y))).run Try.prog w = .ok (.bool (decide (x = y))) w := by
  have := eqPtrScope w x y hx hy 9999
  simp [binOp, Op.equal, Op.maxDepth, this]

section
variable (w : World) {ops : Array Oper} {rest : List Oper} {o : Oper} {a : Act} {Q : Exit → Act → World → Prop}
theorem wpList_delete_T (hg : o.guard = none) (m x : Operand) (hop : o.op = Op.call { callee := Callee.builtin Builtin.delete, args := #[m, x], argTypes := #[62, 9] }) (b n : Nat) (T : ByteArray → Prop) (hm : a.eval m = .map (some b)) (hown : TMap w b n T) (s : ByteArray) (hs : s.size ≤ maxLen) (hx : a.eval x = .string s)
    (hK : ∀ w', TMap w' b n (fun x => ¬ x = s ∧ T x) → w.mapTurned w' b → wpList Try.prog ops Q rest (a.put o.dst (.tuple #[])) w') : wpList Try.prog ops Q (o :: rest) a w := by
  refine wpList_plain hg fun K' hK' => ?_
  obtain ⟨w', hrun, r1, r2⟩ := hown.drop s hs o.type
  unfold Oper.wp
  simp [execOp, hop, resolve, invoke, builtin, hm, hx, hrun, Result.andThen]
  exact hK' _ _ (hK w' r1 r2)
end

theorem filt (l : List ByteArray) (p : ByteArray → Prop) : ∃ l' : List ByteArray, ∀ x, x ∈ l' ↔ x ∈ l ∧ p x :=
  ⟨l.filter (fun x => @decide (p x) (Classical.propDecidable _)), fun x => by simp⟩

/-- The innermost is taken off. -/
theorem Fw.pop_scp {W wr : World} {q nt nb g n c : Nat} {nv uv : Value} {acc tl cb : List ByteArray} {f : Addr → Int → Option Value} {sc : Sc} {ss : List Sc} {fs : List Fs} {K : List (Nat × Obj)} (h : Fw W wr q nt nb nv (.slice (some ⟨g, 0, none⟩) n c) uv acc tl cb f (sc :: ss) fs K) (hn : n = ss.length + 1) : Fw W (wr.setCell ⟨q + 3, 3, none⟩ (.slice (some ⟨g, 0, none⟩) ss.length c)) q nt nb nv (.slice (some ⟨g, 0, none⟩) ss.length c) uv acc tl cb f ss fs K := by
  subst hn
  have hr := h.scp
  simp only [List.map_cons, List.reverse_cons, List.length_cons] at hr
  exact h.put_scp h.sces.2 (row_short hr (by simp)) (grown_refl _ _) (.inl rfl)

set_option maxRecDepth 100000 in
set_option maxHeartbeats 4000000 in
theorem leave_any {W wr : World} {q nt nb : Nat} {nv sv uv : Value} {acc tl cb b : List ByteArray} {f : Addr → Int → Option Value} {sc : Sc} {ss : List Sc} {fs : List Fs} {K : List (Nat × Obj)} (h : Fw W wr q nt nb nv sv uv acc tl cb f (sc :: ss) fs K) (hss : ss.length + 1 ≤ 30000000) (hdl : sc.2.length ≤ 30000000) (hcb : ∀ x, x ∈ cb ↔ x ∈ sc.2 ∨ x ∈ b) (hno : ∀ x ∈ sc.2, ¬ x ∈ b) :
    Calls Try.prog 62 #[.pointer (some ⟨q + 3, 0, none⟩)] wr fun e w' => e = .returned (.tuple #[]) ∧ Hid (∃ sv', Fw W w' q nt nb nv sv' uv acc tl b f ss fs K) := by
  have hC := scope_any h (by simpa using hss)
  have HF : Hid (Fw W wr q nt nb nv sv uv acc tl cb f (sc :: ss) fs K) := h
  have HCB : Hid ((∀ x, x ∈ cb ↔ x ∈ sc.2 ∨ x ∈ b) ∧ ∀ x ∈ sc.2, ¬ x ∈ b) := ⟨hcb, hno⟩
  have hr := h.scp
  simp only [List.map_cons, List.reverse_cons, List.length_cons] at hr
  obtain ⟨g, c, rfl, q1, q2, q3, q4, q5⟩ := rowlast_any hr (by simp)
  obtain ⟨n, hn⟩ : ∃ n, ss.length = n := ⟨_, rfl⟩
  have HN : Hid (ss.length = n) := hn
  have hsc : topS (sc :: ss) = sc.1 := rfl
  rw [hsc] at hC
  have hv : ∃ a, sc.1 = .pointer a ∧ (topS ss = .pointer a ∧ sc.2 = [] ∧ (a = none ∨ ∃ b2 cur, a = some ⟨b2, 0, none⟩ ∧ (b2, Obj.cells cur 152 (0, 0)) ∈ K) ∨ (∃ b', a = some ⟨b', 0, none⟩ ∧ topS ss ≠ .pointer (some ⟨b', 0, none⟩) ∧ (topS ss = .pointer none ∨ ∃ b2 cur, topS ss = .pointer (some ⟨b2, 0, none⟩) ∧ (b2, Obj.cells cur 152 (0, 0)) ∈ K) ∧ ∃ ar dp g' c' cur, (b', Obj.cells #[ar, dp, .slice (some ⟨g', 0, none⟩) sc.2.length c'] 152 (0, 0)) ∈ K ∧ (g', Obj.cells cur 9 (0, 0)) ∈ K ∧ (∀ (i : Nat) (s : ByteArray), sc.2[i]? = some s → cur[i]? = some (.string s)) ∧ (∀ s ∈ sc.2, s.size ≤ 1048576))) := by
    obtain ⟨v, dl⟩ := sc
    have ht := h.sces.2.top
    rcases h.sces.1 with ⟨e1, e2⟩ | ⟨b', ar, dp, g', c', cur, e1, e2, e3, e4, e5, e6, e7⟩
    · rcases ht with e3 | ⟨b', o, e3, e4⟩
      · exact ⟨_, e1.trans e3, .inl ⟨e3, e2, .inl rfl⟩⟩
      · exact ⟨_, e1.trans e3, .inl ⟨e3, e2, .inr ⟨_, _, rfl, e4⟩⟩⟩
    · exact ⟨_, e1, .inr ⟨b', rfl, fun e => e2 (e1.trans e.symm), ht, ar, dp, g', c', cur, e3, e4, e5, e7⟩⟩
  obtain ⟨a, ha, hcase⟩ := hv
  rw [ha] at hC
  have hssn : n + 1 ≤ 30000000 := by omega
  rw [hn] at q3
  clear h hr q4 q5 hcb hno hsc hn hss
  go_enter Try.func62, Try.ntmps62
  go_wp2_with fail
  refine hC.mono ?_
  clear hC
  rintro _ w1 ⟨rfl, hb1⟩
  have h1 := HF.out.later hb1
  obtain ⟨_, _, _, c3, _, _, cz⟩ := h1.cells
  have z3 := cz 3
  have hpz : q + 3 < w1.heap.size := by have := h1.sz; omega
  rw [HN.out] at c3
  have h2 := (h1.pop_scp rfl).later (Below.refl _ _).drew
  rw [HN.out] at h2
  have HF2 : Hid (Fw W _ q nt nb nv _ uv acc tl cb f ss fs K) := h2
  have hC := scope_any h2 (by rw [HN.out]; omega)
  clear h1 h2 cz HF hb1
  go_wp2_with fail
  go_region
  all_goals
    go_wp2_with fail
    refine hC.mono ?_
    clear hC c3 z3
    rintro _ w2 ⟨rfl, hb2⟩
    have HF3 : Hid (Fw W w2 q nt nb nv _ uv acc tl cb f ss fs K) := HF2.out.later hb2
    clear HF2 hb2
    rcases hcase with ⟨ht, hdn, hpl⟩ | ⟨b', rfl, hne, hto, ar, dp, g', c', cur, k1, k2, k3, k4⟩
    · rw [ht]
      have HX : Hid (Fw W w2 q nt nb nv (.slice (some ⟨g, 0, none⟩) n c) uv acc tl b f ss fs K) := HF3.out.alike (fun x => by rw [HCB.out.1 x, hdn]; simp)
      rcases hpl with rfl | ⟨b2, cu2, rfl, hk2⟩
      · clear HF3 HCB ht hdn ha
        go_wp2_with fail
        ((try simp only [Exit.inBlock, Exit.then]); refine bodyPost_ret (results_none rfl _ _ _) rfl ?_)
        exact ⟨rfl, _, HX.out⟩
      · have hq := eqScope w2 ⟨b2, 0, none⟩ ⟨b2, 0, none⟩ ⟨_, _, (HF3.out.ext _ hk2).1⟩ ⟨_, _, (HF3.out.ext _ hk2).1⟩
        rw [decide_eq_true rfl] at hq
        clear HF3 HCB ht hdn ha
        go_wp2_with fail
        ((try simp only [Exit.inBlock, Exit.then]); refine bodyPost_ret (results_none rfl _ _ _) rfl ?_)
        exact ⟨rfl, _, HX.out⟩
    · have HK : Hid ((b', Obj.cells #[ar, dp, .slice (some ⟨g', 0, none⟩) sc.2.length c'] 152 (0, 0)) ∈ K ∧ (g', Obj.cells cur 9 (0, 0)) ∈ K ∧ (∀ (i : Nat) (s : ByteArray), sc.2[i]? = some s → cur[i]? = some (.string s)) ∧ (∀ s ∈ sc.2, s.size ≤ 1048576)) := ⟨k1, k2, k3, k4⟩
      have s2 : w2.cell? ⟨b', 2, none⟩ = some (.slice (some ⟨g', 0, none⟩) sc.2.length c') := by rw [cell_of_row w2 _ 2 _ _ _ (HF3.out.ext _ k1).1]; rfl
      obtain ⟨len, hlen⟩ : ∃ l, sc.2.length = l := ⟨_, rfl⟩
      have HLN : Hid (sc.2.length = len) := hlen
      rw [hlen] at s2 hdl
      rcases hto with e | ⟨b2, cu2, e, hk2⟩
      · rw [e]
        clear hne hlen k1 k2 k3 k4 e ha
        go_wp2_with fail
        clear s2
        go_loopw [30] (fun i wx => ∃ k : Nat, k ≤ len ∧ i = .int .i64 k ∧ Hid (∃ cbi : List ByteArray, (∀ x, x ∈ cbi ↔ x ∈ b ∨ (x ∈ sc.2 ∧ ¬ x ∈ sc.2.take k)) ∧ Fw W wx q nt nb nv (.slice (some ⟨g, 0, none⟩) n c) uv acc tl cbi f ss fs K)) (fun i _ => len - (intOf i).toNat)
        case atStart => exact ⟨0, Nat.zero_le _, rfl, cb, fun x => by rw [HCB.out.1 x]; simp [or_comm], HF3.out⟩
        case round =>
          clear HF3
          rename World => wx
          obtain ⟨k, hk, rfl, HJ⟩ := hrel
          obtain ⟨cbi, hcbi, hFw⟩ := HJ.out
          by_cases hkl : k < len
          · obtain ⟨s, hs⟩ : ∃ s, sc.2[k]? = some s := ⟨_, List.getElem?_eq_getElem (by rw [HLN.out]; exact hkl)⟩
            have hsz : s.size ≤ maxLen := by have := HK.out.2.2.2 s (List.mem_of_getElem? hs); unfold maxLen; omega
            have f1 : wx.cell? ⟨g', k, none⟩ = some (.string s) := by rw [cell_of_row wx _ _ _ _ _ (hFw.ext _ HK.out.2.1).1]; exact HK.out.2.2.1 k s hs
            obtain ⟨_, _, c2, _⟩ := hFw.cells
            have HB : Hid (TMap wx q nb (fun x => x ∈ cbi)) := hFw.bound
            have HFW : Hid (Fw W wx q nt nb nv (.slice (some ⟨g, 0, none⟩) n c) uv acc tl cbi f ss fs K) := hFw
            obtain ⟨cb2, hcb2⟩ := filt cbi (fun x => ¬ x = s)
            have HCC : Hid ((∀ x, x ∈ cb2 ↔ x ∈ cbi ∧ ¬ x = s) ∧ ∀ x, x ∈ cb2 ↔ x ∈ b ∨ (x ∈ sc.2 ∧ ¬ x ∈ sc.2.take (k + 1))) := by
              refine ⟨hcb2, fun x => ?_⟩
              rw [hcb2 x, hcbi x, List.take_add_one, hs]
              simp only [Option.toList_some, List.mem_append, List.mem_singleton]
              constructor
              · rintro ⟨h1 | ⟨h1, h2⟩, h3⟩
                · exact .inl h1
                · exact .inr ⟨h1, fun h4 => h4.elim h2 h3⟩
              · rintro (h1 | ⟨h1, h2⟩)
                · exact ⟨.inl h1, fun e => HCB.out.2 s (List.mem_of_getElem? hs) (e ▸ h1)⟩
                · exact ⟨.inr ⟨h1, fun h3 => h2 (.inl h3)⟩, fun h3 => h2 (.inr h3)⟩
            have hkl' : (k : Int) < (len : Int) := by omega
            clear hFw hcbi hcb2 hs HJ
            go_wp2_with (at_delete; refine wpList_delete_T _ rfl _ _ rfl q nb _ rfl HB.out s hsz rfl ?_; intro w' ht htu)
            have HNX : Hid (Fw W w' q nt nb nv (.slice (some ⟨g, 0, none⟩) n c) uv acc tl cb2 f ss fs K) := HFW.out.boundPut htu (ht.alike (Nat.le_refl _) fun x => by rw [HCC.out.1 x]; exact and_comm)
            clear ht htu HB HFW f1 c2
            go_roundw
            case rel => exact ⟨k + 1, by omega, by go_num, cb2, HCC.out.2, HNX.out⟩
            case measure => simp [intOf]; omega
          · obtain rfl : k = len := by omega
            have hkl' : decide ((k : Int) < (k : Int)) = false := by simp
            have HX : Hid (Fw W wx q nt nb nv (.slice (some ⟨g, 0, none⟩) n c) uv acc tl b f ss fs K) := hFw.alike (fun x => by
              rw [hcbi x, ← HLN.out, List.take_length]
              exact ⟨fun h => h.elim id fun h => absurd h.1 h.2, .inl⟩)
            clear hFw hcbi HJ
            go_wp2_with fail
            go_end0
            exact ⟨rfl, _, HX.out⟩
      · have hb2 : ¬ (⟨b', 0, none⟩ : Addr) = ⟨b2, 0, none⟩ := fun e2 => hne (by rw [e, e2])
        have hq := eqScope w2 ⟨b', 0, none⟩ ⟨b2, 0, none⟩ ⟨_, _, (HF3.out.ext _ k1).1⟩ ⟨_, _, (HF3.out.ext _ hk2).1⟩
        rw [decide_eq_false hb2] at hq
        rw [e]
        clear hne hlen k1 k2 k3 k4 e hk2 hb2 ha
        go_wp2_with fail
        clear s2 hq
        go_loopw [30] (fun i wx => ∃ k : Nat, k ≤ len ∧ i = .int .i64 k ∧ Hid (∃ cbi : List ByteArray, (∀ x, x ∈ cbi ↔ x ∈ b ∨ (x ∈ sc.2 ∧ ¬ x ∈ sc.2.take k)) ∧ Fw W wx q nt nb nv (.slice (some ⟨g, 0, none⟩) n c) uv acc tl cbi f ss fs K)) (fun i _ => len - (intOf i).toNat)
        case atStart => exact ⟨0, Nat.zero_le _, rfl, cb, fun x => by rw [HCB.out.1 x]; simp [or_comm], HF3.out⟩
        case round =>
          clear HF3
          rename World => wx
          obtain ⟨k, hk, rfl, HJ⟩ := hrel
          obtain ⟨cbi, hcbi, hFw⟩ := HJ.out
          by_cases hkl : k < len
          · obtain ⟨s, hs⟩ : ∃ s, sc.2[k]? = some s := ⟨_, List.getElem?_eq_getElem (by rw [HLN.out]; exact hkl)⟩
            have hsz : s.size ≤ maxLen := by have := HK.out.2.2.2 s (List.mem_of_getElem? hs); unfold maxLen; omega
            have f1 : wx.cell? ⟨g', k, none⟩ = some (.string s) := by rw [cell_of_row wx _ _ _ _ _ (hFw.ext _ HK.out.2.1).1]; exact HK.out.2.2.1 k s hs
            obtain ⟨_, _, c2, _⟩ := hFw.cells
            have HB : Hid (TMap wx q nb (fun x => x ∈ cbi)) := hFw.bound
            have HFW : Hid (Fw W wx q nt nb nv (.slice (some ⟨g, 0, none⟩) n c) uv acc tl cbi f ss fs K) := hFw
            obtain ⟨cb2, hcb2⟩ := filt cbi (fun x => ¬ x = s)
            have HCC : Hid ((∀ x, x ∈ cb2 ↔ x ∈ cbi ∧ ¬ x = s) ∧ ∀ x, x ∈ cb2 ↔ x ∈ b ∨ (x ∈ sc.2 ∧ ¬ x ∈ sc.2.take (k + 1))) := by
              refine ⟨hcb2, fun x => ?_⟩
              rw [hcb2 x, hcbi x, List.take_add_one, hs]
              simp only [Option.toList_some, List.mem_append, List.mem_singleton]
              constructor
              · rintro ⟨h1 | ⟨h1, h2⟩, h3⟩
                · exact .inl h1
                · exact .inr ⟨h1, fun h4 => h4.elim h2 h3⟩
              · rintro (h1 | ⟨h1, h2⟩)
                · exact ⟨.inl h1, fun e => HCB.out.2 s (List.mem_of_getElem? hs) (e ▸ h1)⟩
                · exact ⟨.inr ⟨h1, fun h3 => h2 (.inl h3)⟩, fun h3 => h2 (.inr h3)⟩
            have hkl' : (k : Int) < (len : Int) := by omega
            clear hFw hcbi hcb2 hs HJ
            go_wp2_with (at_delete; refine wpList_delete_T _ rfl _ _ rfl q nb _ rfl HB.out s hsz rfl ?_; intro w' ht htu)
            have HNX : Hid (Fw W w' q nt nb nv (.slice (some ⟨g, 0, none⟩) n c) uv acc tl cb2 f ss fs K) := HFW.out.boundPut htu (ht.alike (Nat.le_refl _) fun x => by rw [HCC.out.1 x]; exact and_comm)
            clear ht htu HB HFW f1 c2
            go_roundw
            case rel => exact ⟨k + 1, by omega, by go_num, cb2, HCC.out.2, HNX.out⟩
            case measure => simp [intOf]; omega
          · obtain rfl : k = len := by omega
            have hkl' : decide ((k : Int) < (k : Int)) = false := by simp
            have HX : Hid (Fw W wx q nt nb nv (.slice (some ⟨g, 0, none⟩) n c) uv acc tl b f ss fs K) := hFw.alike (fun x => by
              rw [hcbi x, ← HLN.out, List.take_length]
              exact ⟨fun h => h.elim id fun h => absurd h.1 h.2, .inl⟩)
            clear hFw hcbi HJ
            go_wp2_with fail
            go_end0
            exact ⟨rfl, _, HX.out⟩

end Go.Proofs.Ytpokheklplcamaa

/- The program's FreeOf: a list that was never met is opened; its spot. -/
namespace Go.Proofs.Ytpokheklplcamaa
open Go.RowKit
set_option linter.unusedVariables false

theorem zeroScope (V : World) : (zeroValue 149).run Try.prog V = .ok (.pointer none) V := by go_simp

set_option maxRecDepth 100000 in
set_option maxHeartbeats 4000000 in
theorem opens_any {W wr : World} {q nt nb : Nat} {nv sv uv : Value} {acc tl cb : List ByteArray} {f : Addr → Int → Option Value} {ss : List Sc} {fs : List Fs} {K : List (Nat × Obj)} (h : Fw W wr q nt nb nv sv uv acc tl cb f ss fs K) (hss : ss.length ≤ 30000000) (g l : Nat) (cur : Array Value) (t : TypeId) (hg : W.heap[g]? = some (.cells cur t (0, 0))) (hgq : g < q) (hf : f ⟨g, 0, none⟩ l = none) :
    Calls Try.prog 63 #[.pointer (some ⟨q + 3, 0, none⟩), .agg #[.pointer (some ⟨g, 0, none⟩), .int .i64 l]] wr fun e w' => e = .returned (.bool true) ∧ Hid (Fw W w' q nt nb nv sv uv acc tl cb (upd f ⟨g, 0, none⟩ l (topS ss)) ss fs K) := by
  obtain ⟨X, hX⟩ : ∃ X, X = wr.alloc (.cells #[.pointer (some ⟨g, 0, none⟩), .int .i64 l] 113) := ⟨_, rfl⟩
  have hbX : Below wr.heap.size wr X := by rw [hX]; exact (Below.refl _ _).alloc (Nat.le_refl _) _
  have HBX : Hid (X.heap[wr.heap.size]? = some (.cells #[.pointer (some ⟨g, 0, none⟩), .int .i64 l] 113 (0, 0))) := by rw [hX]; exact heap_alloc_new wr _
  have HF : Hid (Fw W X q nt nb nv sv uv acc tl cb f ss fs K) := h.later hbX
  have HPL : Hid (∀ V : World, Below q W V → Plain V ⟨g, 0, none⟩) := fun V hV => ⟨_, _, (hV.block _ hgq).trans hg⟩
  have HTP : Hid (∃ a, topS ss = .pointer a) := by
    rcases h.sces.top with e | ⟨b, o, e, _⟩
    · exact ⟨_, e⟩
    · exact ⟨_, e⟩
  obtain ⟨_, _, _, _, c4, _, _⟩ := HF.out.cells
  have b0 : X.cell? ⟨wr.heap.size, 0, none⟩ = some (.pointer (some ⟨g, 0, none⟩)) := by rw [cell_of_row X _ 0 _ _ _ HBX.out]; rfl
  have b1 : X.cell? ⟨wr.heap.size, 1, none⟩ = some (.int .i64 l) := by rw [cell_of_row X _ 1 _ _ _ HBX.out]; rfl
  have hlk := look_drewN spotExpr Try.underlying63 HF.out.met (x := ⟨g, 0, none⟩) (n := l) (HPL.out _ HF.out.bel) zeroScope hf
  have HX : Hid (X = _) := hX
  obtain ⟨a, ha⟩ := HTP.out
  have HA : Hid (topS ss = .pointer a) := ha
  rw [ha]
  clear h hX hbX hg hf ha HTP
  go_enter Try.func63, Try.ntmps63
  go_wp2_with fail
  rw [← HX.out]
  clear HX
  go_cut [5, 6] (fun a b wx => a = .pointer none ∧ b = .bool false ∧ Below X.heap.size X wx)
  case first =>
    go_quiet (fail)
    go_wp2_with fail
    go_meet
    case rel => exact ⟨rfl, rfl, below_drewN (Below.refl _ _) _⟩
  case rest =>
    obtain ⟨rfl, rfl, hbc⟩ := hcut
    obtain ⟨Y, hY⟩ : ∃ Y, Y = wc := ⟨_, rfl⟩
    rw [← hY] at hbc ⊢
    have HFC : Hid (Fw W Y q nt nb nv sv uv acc tl cb f ss fs K) := HF.out.later hbc
    have HBC : Hid _ := (hbc.block _ (lt_row HBX.out)).trans HBX.out
    obtain ⟨_, _, _, _, d4, _, _⟩ := HFC.out.cells
    have b0' : Y.cell? ⟨wr.heap.size, 0, none⟩ = some (.pointer (some ⟨g, 0, none⟩)) := by rw [cell_of_row Y _ 0 _ _ _ HBC.out]; rfl
    have b1' : Y.cell? ⟨wr.heap.size, 1, none⟩ = some (.int .i64 l) := by rw [cell_of_row Y _ 1 _ _ _ HBC.out]; rfl
    have HSC : Hid (∀ m : After Y, Calls Try.prog 90 #[.pointer (some ⟨q + 3, 0, none⟩)] m.now fun e w' => e = .returned (.pointer a) ∧ Below m.now.heap.size m.now w') := fun m => by
      rw [← HA.out]
      exact scope_any (HFC.out.later m.bel) hss
    clear hlk b0 b1 c4 HBX HF hbc hY
    go_wp2_with fail
    have hn0 := After.some Y
    have q1 := After.cell d4
    have q2 := After.cell b0'
    have q3 := After.cell b1'
    refine wp_region_after_tail 7 (by kernel_rfl) (by kernel_rfl) ?_
    simp only [List.take_succ_cons, List.take_zero, List.drop_succ_cons, List.drop_zero]
    repeat (go_big_quiet_step (first | (go_at_call 90; with_reducible exact calls_after (HSC.out _))))
    refine wpQuiet_nil ?_
    rintro _ ⟨nq, rfl⟩
    have HS1 : Hid (Fw W nq.now q nt nb nv sv uv acc tl cb f ss fs K) := HFC.out.later nq.bel
    refine wpList_store_spot _ rfl _ _ _ 63 rfl 113 149 spotExpr Try.underlying63 (q + 2) f rfl HS1.out.met ⟨g, 0, none⟩ l (.pointer a) rfl rfl (HPL.out _ HS1.out.bel) ?_
    intro w6 hS6 hT6
    have HS6 : Hid (Fw W w6 q nt nb nv sv uv acc tl cb (upd f ⟨g, 0, none⟩ l (.pointer a)) ss fs K) := HS1.out.metPut hT6 hS6 (fun x n v hv => by
      by_cases he : x = ⟨g, 0, none⟩ ∧ n = l
      · rw [he.1]; exact hgq
      · exact HS1.out.keys x n v (by unfold upd at hv; rw [if_neg he] at hv; exact hv))
    clear hS6 hT6 HS1 q1 q2 q3 hn0 d4 b0' b1' HBC HFC HSC
    refine wpList_nil ?_
    go_wp2_with fail
    go_ret
    exact ⟨rfl, HS6.out⟩

set_option maxRecDepth 100000 in
set_option maxHeartbeats 1000000 in
theorem spotP_any (u o g l c : Nat) (hl : 0 < l) (hl1 : l ≤ 1048576) (w : World) (h0 : w.cell? ⟨u, o, none⟩ = some (.slice (some ⟨g, 0, none⟩) l c)) (h1 : w.cell? ⟨u, o + 1, none⟩ = some (.slice none 0 0)) (hu : u < w.heap.size) :
    Calls Try.prog 64 #[.pointer (some ⟨u, o, none⟩)] w fun e w' => e = .returned (.agg #[.pointer (some ⟨g, 0, none⟩), .int .i64 l]) ∧ Below w.heap.size w w' := by
  obtain ⟨X, hX⟩ : ∃ X, X = w.alloc (.cells #[.pointer none, .int .i64 0] 113) := ⟨_, rfl⟩
  have hbX : Below w.heap.size w X := by rw [hX]; exact (Below.refl _ _).alloc (Nat.le_refl _) _
  have HBX : Hid (X.heap[w.heap.size]? = some (.cells #[.pointer none, .int .i64 0] 113 (0, 0))) := by rw [hX]; exact heap_alloc_new w _
  have hC := spotOfX_any g 0 l c X hl (by omega)
  rw [hX] at hC
  have HX : Hid (X = _) := hX
  have HB : Hid (Below w.heap.size w X) := hbX
  clear hX hbX
  go_enter Try.func64, Try.ntmps64
  go_wp2_with fail
  refine hC.mono ?_
  clear hC
  rintro _ Y ⟨rfl, hb⟩
  rw [← HX.out] at hb
  have hrow := (hb.block _ (lt_row HBX.out)).trans HBX.out
  have d0 : Y.cell? ⟨w.heap.size, 0, none⟩ = some (.pointer none) := by rw [cell_of_row Y _ 0 _ _ _ hrow]; rfl
  have d1 : Y.cell? ⟨w.heap.size, 1, none⟩ = some (.int .i64 0) := by rw [cell_of_row Y _ 1 _ _ _ hrow]; rfl
  have y0 : Y.frozen? ⟨w.heap.size, 0, none⟩ = false := frozen_of_row Y _ _ _ _ hrow
  have y1 : Y.frozen? ⟨w.heap.size, 1, none⟩ = false := frozen_of_row Y _ _ _ _ hrow
  have hwY : w.heap.size < Y.heap.size := lt_row hrow
  have HBY : Hid (Below w.heap.size w Y) := HB.out.trans (hb.mono HB.out.size)
  have r0 : (Y.setCell ⟨w.heap.size, 0, none⟩ (.pointer (some ⟨g, 0, none⟩))).cell? ⟨w.heap.size, 0, none⟩ = some (.pointer (some ⟨g, 0, none⟩)) := by rw [cell_of_row _ _ 0 _ _ _ (heap_setCell_same Y w.heap.size 0 _ _ _ hrow)]; rfl
  have r1 : ((Y.setCell ⟨w.heap.size, 0, none⟩ (.pointer (some ⟨g, 0, none⟩))).setCell ⟨w.heap.size, 1, none⟩ (.int .i64 l)).cell? ⟨w.heap.size, 1, none⟩ = some (.int .i64 l) := by rw [cell_of_row _ _ 1 _ _ _ (heap_setCell_same _ w.heap.size 1 _ _ _ (heap_setCell_same Y w.heap.size 0 _ _ _ hrow))]; rfl
  clear hb HX HB HBX h0 h1 hrow
  go_wp2_with fail
  refine bodyPost_ret (v := .agg #[.pointer (some ⟨g, 0, none⟩), .int .i64 l]) (by first | (simp [results, Try.results64, go_sem, r0, r1, Result.andThen]; done) | (simp [results, Try.results64, go_sem, r0, r1, Result.andThen]; rfl)) rfl ⟨rfl, ?_⟩
  exact (HBY.out.setCell (p := ⟨w.heap.size, 0, none⟩) (Nat.le_refl _) _).setCell (p := ⟨w.heap.size, 1, none⟩) (Nat.le_refl _) _

set_option maxRecDepth 100000 in
set_option maxHeartbeats 1000000 in
theorem spotC_any (u o g l c : Nat) (hl : 0 < l) (hl1 : l ≤ 1048576) (w : World) (h0 : w.cell? ⟨u, o, none⟩ = some (.slice none 0 0)) (h1 : w.cell? ⟨u, o + 1, none⟩ = some (.slice (some ⟨g, 0, none⟩) l c)) (hu : u < w.heap.size) :
    Calls Try.prog 64 #[.pointer (some ⟨u, o, none⟩)] w fun e w' => e = .returned (.agg #[.pointer (some ⟨g, 0, none⟩), .int .i64 l]) ∧ Below w.heap.size w w' := by
  obtain ⟨X, hX⟩ : ∃ X, X = w.alloc (.cells #[.pointer none, .int .i64 0] 113) := ⟨_, rfl⟩
  have hbX : Below w.heap.size w X := by rw [hX]; exact (Below.refl _ _).alloc (Nat.le_refl _) _
  have HBX : Hid (X.heap[w.heap.size]? = some (.cells #[.pointer none, .int .i64 0] 113 (0, 0))) := by rw [hX]; exact heap_alloc_new w _
  have hC := clausesSpot_any g 0 l c X hl (by omega)
  rw [hX] at hC
  have HX : Hid (X = _) := hX
  have HB : Hid (Below w.heap.size w X) := hbX
  clear hX hbX
  go_enter Try.func64, Try.ntmps64
  go_wp2_with fail
  refine hC.mono ?_
  clear hC
  rintro _ Y ⟨rfl, hb⟩
  rw [← HX.out] at hb
  have hrow := (hb.block _ (lt_row HBX.out)).trans HBX.out
  have d0 : Y.cell? ⟨w.heap.size, 0, none⟩ = some (.pointer none) := by rw [cell_of_row Y _ 0 _ _ _ hrow]; rfl
  have d1 : Y.cell? ⟨w.heap.size, 1, none⟩ = some (.int .i64 0) := by rw [cell_of_row Y _ 1 _ _ _ hrow]; rfl
  have y0 : Y.frozen? ⟨w.heap.size, 0, none⟩ = false := frozen_of_row Y _ _ _ _ hrow
  have y1 : Y.frozen? ⟨w.heap.size, 1, none⟩ = false := frozen_of_row Y _ _ _ _ hrow
  have hwY : w.heap.size < Y.heap.size := lt_row hrow
  have HBY : Hid (Below w.heap.size w Y) := HB.out.trans (hb.mono HB.out.size)
  have r0 : (Y.setCell ⟨w.heap.size, 0, none⟩ (.pointer (some ⟨g, 0, none⟩))).cell? ⟨w.heap.size, 0, none⟩ = some (.pointer (some ⟨g, 0, none⟩)) := by rw [cell_of_row _ _ 0 _ _ _ (heap_setCell_same Y w.heap.size 0 _ _ _ hrow)]; rfl
  have r1 : ((Y.setCell ⟨w.heap.size, 0, none⟩ (.pointer (some ⟨g, 0, none⟩))).setCell ⟨w.heap.size, 1, none⟩ (.int .i64 l)).cell? ⟨w.heap.size, 1, none⟩ = some (.int .i64 l) := by rw [cell_of_row _ _ 1 _ _ _ (heap_setCell_same _ w.heap.size 1 _ _ _ (heap_setCell_same Y w.heap.size 0 _ _ _ hrow))]; rfl
  clear hb HX HB HBX h0 h1 hrow
  go_wp2_with fail
  refine bodyPost_ret (v := .agg #[.pointer (some ⟨g, 0, none⟩), .int .i64 l]) (by first | (simp [results, Try.results64, go_sem, r0, r1, Result.andThen]; done) | (simp [results, Try.results64, go_sem, r0, r1, Result.andThen]; rfl)) rfl ⟨rfl, ?_⟩
  exact (HBY.out.setCell (p := ⟨w.heap.size, 0, none⟩) (Nat.le_refl _) _).setCell (p := ⟨w.heap.size, 1, none⟩) (Nat.le_refl _) _

end Go.Proofs.Ytpokheklplcamaa

/- The program's FreeOf: a clause is entered. -/
namespace Go.Proofs.Ytpokheklplcamaa
open Go.RowKit
set_option linter.unusedVariables false

theorem vars_small : ∀ (d : Nat) (e : Ex d), ∀ s ∈ vars d e, s.size ≤ szX d e
  | 0, _, s, h => by cases h
  | d + 1, e, s, h => by
    show s.size ≤ e.S.size + szRow (szX d) e.E + szRow (ClF (szX d)) e.C
    rcases List.mem_append.1 (show s ∈ ownName e.K e.S ++ e.E.flatMap (vars d) from h) with h | h
    · unfold ownName at h
      split at h
      · rw [List.mem_singleton.1 h]; omega
      · cases h
    · obtain ⟨x, hx, hs⟩ := List.mem_flatMap.1 h
      obtain ⟨i, hi⟩ := List.getElem?_of_mem hx
      have := vars_small d x s hs
      have := szRow_mem (f := szX d) hi
      omega

theorem Try.infoScopeP : (Try.prog.info? 149).map (fun i => (i.zero, i.size, i.bytes)) = some (some (.pointer none), 1, 8) := by kernel_rfl

/-- A row of texts that is held. -/
theorem strrow_hold {w : World} {B : Nat} {v : Value} {l : List ByteArray} (h : StrRow w B v l) : ∃ (va : Option Addr) (vc : Nat) (KH : List (Nat × Obj)), v = .slice va l.length vc ∧ (∀ k ∈ KH, w.heap[k.1]? = some k.2 ∧ B ≤ k.1) ∧ ∀ V : World, (∀ k ∈ KH, V.heap[k.1]? = some k.2) → ∀ (i : Nat) (s : ByteArray), l[i]? = some s → ∃ b, va = some ⟨b, 0, none⟩ ∧ V.cell? ⟨b, i, none⟩ = some (.string s) := by
  rcases h.2 with ⟨e, e0⟩ | ⟨g, c, cur, e, q1, q2, q3, q4, q5, q6⟩
  · refine ⟨none, 0, [], by rw [e, e0], fun k hk => (by cases hk), fun V _ i s hs => ?_⟩
    rw [List.length_eq_zero_iff.1 e0] at hs
    simp at hs
  · refine ⟨_, c, [(g, Obj.cells cur 9 (0, 0))], e, fun k hk => ?_, fun V hV i s hs => ⟨g, rfl, ?_⟩⟩
    · rw [List.mem_singleton.1 hk]; exact ⟨q2, q1⟩
    · have hq := hV _ (List.mem_singleton.2 rfl)
      rw [cell_of_row V _ _ _ _ _ hq]
      have hi : i < l.length := (List.getElem?_eq_some_iff.1 hs).1
      have h1 := congrArg (fun l : List Value => l[i]?) q6
      rw [List.getElem?_take_of_lt (by omega), List.getElem?_map, hs] at h1
      rw [← Array.getElem?_toList]
      exact h1

/-- Something beside it grows. -/
theorem Fw.aside {W wr : World} {q nt nb : Nat} {nv sv uv : Value} {acc tl cb : List ByteArray} {f : Addr → Int → Option Value} {ss : List Sc} {fs : List Fs} {K : List (Nat × Obj)} (h : Fw W wr q nt nb nv sv uv acc tl cb f ss fs K) {w' : World} {r : Option Nat} (hg : wr.grownBy w' r) (hr : ∀ x, r = some x → q + 4 ≤ x ∧ nv.ownBlock ≠ some x ∧ sv.ownBlock ≠ some x ∧ uv.ownBlock ≠ some x ∧ ∀ k ∈ K, k.1 ≠ x) : Fw W w' q nt nb nv sv uv acc tl cb f ss fs K := by
  have hs := h.sz
  have hb1 := h.bel
  have hlow : ∀ g, g < q + 4 → w'.heap[g]? = wr.heap[g]? := fun g hg' => hg.block g (by omega) (fun e => by have := (hr g e.symm).1; omega)
  refine ⟨⟨hg.os.trans hb1.os, hg.tape.trans hb1.tape, hg.output.trans hb1.output, Nat.le_trans hb1.size hg.size, fun g hg' => (hlow g (by omega)).trans (hb1.block g hg')⟩, h.wsz, (hlow _ (by omega)).trans h.row, rowKept h.names fun g hn => hg.block g (own_blk h.names g hn).2 (fun e => (hr g e.symm).2.1 hn), rowKept h.scp fun g hn => hg.block g (own_blk h.scp g hn).2 (fun e => (hr g e.symm).2.2.1 hn), rowKept h.und fun g hn => hg.block g (own_blk h.und g hn).2 (fun e => (hr g e.symm).2.2.2.1 hn), h.told.kept (hlow _ (by omega)), h.bound.kept (hlow _ (by omega)), h.plain (fun g hg' => hlow g (by omega)) (hlow _ (by omega)), h.keys, h.sces, fun k hk => ⟨(hg.block _ (lt_row (h.ext k hk).1) (fun e => (hr _ e.symm).2.2.2.2 k hk rfl)).trans (h.ext k hk).1, (h.ext k hk).2⟩⟩

/-- A row of texts apart from all that. -/
structure Nw (w : World) (q : Nat) (nm nv sv uv : Value) (dl : List ByteArray) (K : List (Nat × Obj)) : Prop where
  row : w.ownsRow (q + 4) 9 1 nm dl.length (dl.map Value.string)
  far : ∀ x, nm.ownBlock = some x → nv.ownBlock ≠ some x ∧ sv.ownBlock ≠ some x ∧ uv.ownBlock ≠ some x ∧ ∀ k ∈ K, k.1 ≠ x

theorem Nw.kept {w w' : World} {q : Nat} {nm nv sv uv : Value} {dl : List ByteArray} {K : List (Nat × Obj)} (h : Nw w q nm nv sv uv dl K) (hb : ∀ g, q + 4 ≤ g → g < w.heap.size → w'.heap[g]? = w.heap[g]?) : Nw w' q nm nv sv uv dl K :=
  ⟨rowKept h.row fun g hn => hb g (own_blk h.row g hn).1 (own_blk h.row g hn).2, h.far⟩

/-- How the loop over the names stands. -/
def EnI (W : World) (q nt nb : Nat) (nv sv uv : Value) (acc tl cb : List ByteArray) (f : Addr → Int → Option Value) (ss : List Sc) (fs : List Fs) (K : List (Nat × Obj)) (vl : List ByteArray) (k : Nat) (nm : Value) (wx : World) : Prop :=
  ∃ dl cbk nbk, nbk ≤ nb + k ∧ dl.length ≤ k ∧ (∀ y, y ∈ cbk ↔ y ∈ cb ∨ y ∈ vl.take k) ∧ (∀ y, y ∈ cbk ↔ y ∈ dl ∨ y ∈ cb) ∧ (∀ y ∈ dl, ¬ y ∈ cb) ∧ (∀ y ∈ dl, y.size ≤ 1048576) ∧ Fw W wx q nt nbk nv sv uv acc tl cbk f ss fs K ∧ Nw wx q nm nv sv uv dl K

theorem EnI.skip {W : World} {q nt nb : Nat} {nv sv uv : Value} {acc tl cb : List ByteArray} {f : Addr → Int → Option Value} {ss : List Sc} {fs : List Fs} {K : List (Nat × Obj)} {vl : List ByteArray} {k : Nat} {nm : Value} {wx : World} {dl cbk : List ByteArray} {nbk : Nat} {s : ByteArray} (hs : vl[k]? = some s) (h1 : nbk ≤ nb + k) (h2 : dl.length ≤ k) (h3 : ∀ y, y ∈ cbk ↔ y ∈ cb ∨ y ∈ vl.take k) (h4 : ∀ y, y ∈ cbk ↔ y ∈ dl ∨ y ∈ cb) (h5 : ∀ y ∈ dl, ¬ y ∈ cb) (h6 : ∀ y ∈ dl, y.size ≤ 1048576) (h7 : Fw W wx q nt nbk nv sv uv acc tl cbk f ss fs K) (h8 : Nw wx q nm nv sv uv dl K) (hm : s ∈ cbk) : EnI W q nt nb nv sv uv acc tl cb f ss fs K vl (k + 1) nm wx := by
  refine ⟨dl, cbk, nbk, by omega, by omega, fun y => ?_, h4, h5, h6, h7, h8⟩
  rw [List.take_add_one, hs]
  simp only [Option.toList_some, List.mem_append, List.mem_singleton]
  rw [h3 y]
  constructor
  · exact fun h => h.elim .inl fun h => .inr (.inl h)
  · rintro (h | h | rfl)
    · exact .inl h
    · exact .inr h
    · exact (h3 y).1 hm

set_option maxRecDepth 100000 in
set_option maxHeartbeats 4000000 in
theorem enter_any {W wr : World} {q nt nb : Nat} {nv sv uv : Value} {acc tl cb : List ByteArray} {f : Addr → Int → Option Value} {ss : List Sc} {fs : List Fs} {K : List (Nat × Obj)} (h : Fw W wr q nt nb nv sv uv acc tl cb f ss fs K) (hss : ss.length + 1 ≤ 30000000) (hnb : nb ≤ 100000000) (d : Nat) (vs : List Value) (x : Ex d) (fp : List Nat) (hx : ExO d W vs x fp) (hnd : fp.Nodup) (hlt : ∀ g ∈ fp, g < q) (hz : szX d x ≤ 1048576) :
    Calls Try.prog 65 #[.pointer (some ⟨q + 3, 0, none⟩), .agg vs.toArray] wr fun e w' => e = .returned (.tuple #[]) ∧ Hid (∃ nb' sv' sc cb' K', nb' ≤ nb + (vars d x).length ∧ sc.2.length ≤ (vars d x).length ∧ (∀ y, y ∈ cb' ↔ y ∈ cb ∨ y ∈ vars d x) ∧ (∀ y, y ∈ cb' ↔ y ∈ sc.2 ∨ y ∈ cb) ∧ (∀ y ∈ sc.2, ¬ y ∈ cb) ∧ Fw W w' q nt nb' nv sv' uv acc tl cb' f (sc :: ss) fs K') := by
  obtain ⟨i0, i1, s2, a3, l3, c3, a4, l4, c4, rfl⟩ := ExO.shape d W vs x fp hx
  obtain ⟨X, hX⟩ : ∃ X, X = wr.alloc (.cells #[.int .i64 i0, .int .i64 i1, .string s2, .slice a3 l3 c3, .slice a4 l4 c4] 27) := ⟨_, rfl⟩
  have hbX : Below wr.heap.size wr X := by rw [hX]; exact (Below.refl _ _).alloc (Nat.le_refl _) _
  have hFX := h.later hbX
  have hC := namesIn_any d _ x fp 0 X (ExO.lasts d _ _ _ _ _ hx fun g hg => hFX.bel.block g (hlt g hg)) hnd (fun g hg => by have := hlt g hg; have := hFX.sz; omega) hz
  rw [hX] at hC
  have HX : Hid (X = _) := hX
  have HF : Hid (Fw W X q nt nb nv sv uv acc tl cb f ss fs K) := hFX
  have HVS : Hid (∀ s ∈ vars d x, s.size ≤ 1048576) := fun s hs => Nat.le_trans (vars_small d x s hs) hz
  have HVL : Hid ((vars d x).length ≤ 1048577) := by have := vars_len d x; show _ ≤ _; omega
  obtain ⟨vl, hvl⟩ : ∃ l, vars d x = l := ⟨_, rfl⟩
  rw [hvl] at hC HVS HVL ⊢
  clear h hX hbX hFX hx hnd hlt hz hvl
  go_enter Try.func65, Try.ntmps65
  go_wp2_with fail
  refine hC.mono ?_
  clear hC
  rintro _ w1 ⟨v, rfl, HSR, hb1⟩
  rw [← HX.out] at hb1 HSR
  obtain ⟨va, vc, KH, rfl, hKH, hrd⟩ := strrow_hold HSR.out
  have hF1 := HF.out.later hb1
  obtain ⟨K2, hK2⟩ : ∃ K2, K2 = KH ++ K := ⟨_, rfl⟩
  have hXs := HF.out.sz
  have HF1 : Hid (Fw W w1 q nt nb nv sv uv acc tl cb f ss fs K2) := by
    rw [hK2]
    refine hF1.hold (fun k hk => ?_) (fun k hk => List.mem_append_right _ hk)
    rcases List.mem_append.1 hk with hk | hk
    · refine .inr ⟨(hKH k hk).1, by have := (hKH k hk).2; omega, ?_, ?_, ?_⟩
      · intro e; have := (own_blk HF.out.names _ e).2; have := (hKH k hk).2; omega
      · intro e; have := (own_blk HF.out.scp _ e).2; have := (hKH k hk).2; omega
      · intro e; have := (own_blk HF.out.und _ e).2; have := (hKH k hk).2; omega
    · exact .inl hk
  have HRD : Hid (∀ V : World, (∀ k ∈ K2, V.heap[k.1]? = some k.2) → ∀ (i : Nat) (s : ByteArray), vl[i]? = some s → ∃ b, va = some ⟨b, 0, none⟩ ∧ V.cell? ⟨b, i, none⟩ = some (.string s)) := fun V hV => hrd V fun k hk => hV k (by rw [hK2]; exact List.mem_append_left _ hk)
  have HEN : Hid (EnI W q nt nb nv sv uv acc tl cb f ss fs K2 vl 0 (.slice none 0 0) w1) := ⟨[], cb, nb, Nat.le_refl _, Nat.le_refl _, fun y => by simp, fun y => by simp, fun y hy => (by cases hy), fun y hy => (by cases hy), HF1.out, ⟨⟨rfl, .inl ⟨rfl, rfl⟩⟩, fun x hx => (by cases hx)⟩⟩
  obtain ⟨len, hlen⟩ : ∃ l, vl.length = l := ⟨_, rfl⟩
  have HLN : Hid (vl.length = len) := hlen
  have hl1 : len ≤ 1048577 := by have := HVL.out; omega
  rw [hlen]
  obtain ⟨s0, hs0, hs1, hs2, hs3⟩ := info_parts Try.infoStr
  clear hKH hrd hF1 hK2 hXs hb1 HSR HF HX hlen HVL HF1
  go_wp2_with fail
  go_loopw [4, 11] (fun nm i wx => ∃ k : Nat, k ≤ len ∧ i = .int .i64 k ∧ Hid (EnI W q nt nb nv sv uv acc tl cb f ss fs K2 vl k nm wx)) (fun _ i _ => len - (intOf i).toNat)
  case atStart => exact ⟨0, Nat.zero_le _, rfl, HEN⟩
  case round =>
    clear HEN
    rename World => wx
    obtain ⟨k, hk, rfl, HJ⟩ := hrel
    obtain ⟨dl, cbk, nbk, j1, j2, j3, j4, j5, j6, hFw, hNw⟩ := HJ.out
    obtain ⟨na, nl, nc, rfl⟩ := row_slice hNw.row
    by_cases hkl : k < len
    · obtain ⟨s, hs⟩ : ∃ s, vl[k]? = some s := ⟨_, List.getElem?_eq_getElem (by rw [HLN.out]; exact hkl)⟩
      have hs6 := HVS.out s (List.mem_of_getElem? hs)
      have hsz : s.size ≤ maxLen := by unfold maxLen; omega
      obtain ⟨bb, rfl, f1⟩ := HRD.out wx (fun k hk => (hFw.ext k hk).1) k s hs
      obtain ⟨_, _, c2, _⟩ := hFw.cells
      have hkl' : (k : Int) < (len : Int) := by omega
      by_cases hm : s ∈ cbk
      · have hlk := hFw.bound.look_yes hsz hm
        have HNX : Hid (EnI W q nt nb nv sv uv acc tl cb f ss fs K2 vl (k + 1) (.slice na nl nc) wx) := EnI.skip hs j1 j2 j3 j4 j5 j6 hFw hNw hm
        clear hFw hNw j1 j2 j3 j4 j5 j6 hs hm HJ
        go_wp2_with fail
        go_roundw
        case rel => exact ⟨k + 1, by omega, by go_num, HNX⟩
        case measure => simp [intOf]; omega
      · have hlk := hFw.bound.look_no hsz hm
        obtain ⟨w2, hrun, htm, htu⟩ := hFw.bound.store (by unfold maxLen; omega) s hsz
        have hF2 := hFw.boundPut (cb' := s :: cbk) htu (htm.alike (Nat.le_refl _) fun y => by rw [List.mem_cons])
        have hN2 : Nw w2 q (.slice na nl nc) nv sv uv dl K2 := hNw.kept fun g hg1 hg2 => htu.grown.block g hg2 (by simp; omega)
        have HF2 : Hid (Fw W w2 q nt (nbk + 1) nv sv uv acc tl (s :: cbk) f ss fs K2) := hF2
        have HN2 : Hid (Nw w2 q (.slice na nl nc) nv sv uv dl K2) := hN2
        have hsz2 := hF2.sz
        have hdl : dl.length ≤ 1048577 := by omega
        have HST : Hid (∀ nm' w3, Fw W w3 q nt (nbk + 1) nv sv uv acc tl (s :: cbk) f ss fs K2 → Nw w3 q nm' nv sv uv (dl ++ [s]) K2 → EnI W q nt nb nv sv uv acc tl cb f ss fs K2 vl (k + 1) nm' w3) := fun nm' w3 g1 g2 => by
          have hncb : ¬ s ∈ cb := fun e => hm ((j4 s).2 (.inr e))
          refine ⟨dl ++ [s], s :: cbk, nbk + 1, by omega, by simp; omega, fun y => ?_, fun y => ?_, fun y hy => ?_, fun y hy => ?_, g1, g2⟩
          · rw [List.take_add_one, hs]
            simp only [Option.toList_some, List.mem_append, List.mem_cons, List.not_mem_nil, or_false]
            rw [j3 y]
            constructor
            · rintro (h | h | h)
              · exact .inr (.inr h)
              · exact .inl h
              · exact .inr (.inl h)
            · rintro (h | h | h)
              · exact .inr (.inl h)
              · exact .inr (.inr h)
              · exact .inl h
          · simp only [List.mem_append, List.mem_cons, List.not_mem_nil, or_false]
            rw [j4 y]
            constructor
            · rintro (h | h | h)
              · exact .inl (.inr h)
              · exact .inl (.inl h)
              · exact .inr h
            · rintro ((h | h) | h)
              · exact .inr (.inl h)
              · exact .inl h
              · exact .inr (.inr h)
          · rcases List.mem_append.1 hy with h | h
            · exact j5 y h
            · rw [List.mem_singleton.1 h]; exact hncb
          · rcases List.mem_append.1 hy with h | h
            · exact j6 y h
            · rw [List.mem_singleton.1 h]; exact hs6
        have HRW : Hid (w2.ownsRow (q + 4) 9 1 (.slice na nl nc) dl.length (dl.map Value.string)) := hN2.row
        obtain ⟨_, _, d2, _⟩ := hF2.cells
        clear hFw hNw hF2 hN2 htm htu j1 j2 j3 j4 j5 j6 hs hm HJ
        go_wp2_with (at_builtin; (refine wpList_append_own_at _ rfl _ _ 29 rfl (q + 4) 9 s0 (.string ⟨#[]⟩) 1 16 Try.underlying29 hs0 hs1 hs2 hs3 rfl (by decide) _ _ _ rfl (HRW.out.alloc _) ⟨w2.heap.size, 0, none⟩ 1 1 ([s].map Value.string) rfl rfl (new_one (.string s) 9 rfl) (by intro u hu; simp at hu; subst hu; rfl) (by unfold maxLen; omega) (by omega) (by simp <;> omega) ?_; intro v' X hown5 hgrow5 _ hat5; obtain ⟨xa, xl, xc, rfl⟩ := row_slice hown5))
        have HNX : Hid (EnI W q nt nb nv sv uv acc tl cb f ss fs K2 vl (k + 1) (.slice xa xl xc) X) := by
          have hb4 : Below w2.heap.size w2 (w2.alloc (.cells #[.string s] 9)) := (Below.refl _ _).alloc (Nat.le_refl _) _
          refine HST.out _ _ ((HF2.out.later hb4).aside hgrow5 fun x hx => ⟨(own_blk HN2.out.row x hx).1, HN2.out.far x hx⟩) ⟨by simpa using hown5, fun x hx => ?_⟩
          rcases hat5 with e | e
          · exact HN2.out.far x (e.symm.trans hx)
          · rw [e] at hx
            simp only [Option.some.injEq] at hx
            have hbs := hb4.size
            have hf := HF2.out
            refine ⟨fun e => ?_, fun e => ?_, fun e => ?_, fun k hk e => ?_⟩
            · have := (own_blk hf.names _ e).2; omega
            · have := (own_blk hf.scp _ e).2; omega
            · have := (own_blk hf.und _ e).2; omega
            · have := lt_row (hf.ext k hk).1; omega
        clear hown5 hgrow5 hat5 HST HF2 HN2 HRW
        go_wp2_with fail
        go_roundw
        case rel => exact ⟨k + 1, by omega, by go_num, HNX⟩
        case measure => simp [intOf]; omega
    · obtain rfl : k = len := by omega
      have hkl' : decide ((k : Int) < (k : Int)) = false := by simp
      have hC := scope_any hFw (by omega)
      have HFW : Hid (Fw W wx q nt nbk nv sv uv acc tl cbk f ss fs K2) := hFw
      have HNW : Hid (Nw wx q (.slice na nl nc) nv sv uv dl K2) := hNw
      have hnl : nl = dl.length := by
        rcases hNw.row.2 with ⟨e, e0⟩ | ⟨_, _, _, e, _⟩
        · simp only [Value.slice.injEq] at e; omega
        · simp only [Value.slice.injEq] at e; omega
      have HCB : Hid (nbk ≤ nb + vl.length ∧ dl.length ≤ vl.length ∧ (∀ y, y ∈ cbk ↔ y ∈ cb ∨ y ∈ vl) ∧ (∀ y, y ∈ cbk ↔ y ∈ dl ∨ y ∈ cb) ∧ (∀ y ∈ dl, ¬ y ∈ cb) ∧ ∀ y ∈ dl, y.size ≤ 1048576) := by
        have e := HLN.out
        refine ⟨by omega, by omega, fun y => ?_, j4, j5, j6⟩
        rw [j3 y, List.take_of_length_le (by omega)]
      have hdl : dl.length ≤ 1048577 := by omega
      have HNL : Hid (nl = dl.length) := hnl
      obtain ⟨ta, hta⟩ : ∃ a, topS ss = .pointer a := by
        rcases hFw.sces.top with e | ⟨b, o, e, _⟩
        · exact ⟨_, e⟩
        · exact ⟨_, e⟩
      rw [hta] at hC
      have HTA : Hid (topS ss = .pointer ta) := hta
      obtain ⟨_, ⟨sa, sc0, rfl⟩, _⟩ := hFw.few
      obtain ⟨p0, hp0, hp1, hp2, hp3⟩ := info_parts Try.infoScopeP
      clear hFw hNw j1 j2 j3 j4 j5 j6 HJ hta hnl
      go_wp2_with fail
      refine hC.mono ?_
      clear hC
      rintro _ w3 ⟨rfl, hb3⟩
      have HF3 : Hid (Fw W w3 q nt nbk nv _ uv acc tl cbk f ss fs K2) := HFW.out.later hb3
      have HN3 : Hid (Nw w3 q (.slice na nl nc) nv _ uv dl K2) := HNW.out.kept fun g _ hg => hb3.block g hg
      obtain ⟨_, _, _, c3, _, _, cz⟩ := HF3.out.cells
      have z3 := cz 3
      have hsz3 := HF3.out.sz
      clear hb3 HFW HNW cz
      by_cases hd0 : dl.length = 0
      · obtain rfl : dl = [] := List.length_eq_zero_iff.1 hd0
        have hnl0 : nl = 0 := HNL.out
        subst hnl0
        have HSE : Hid (ScE K2 ((.pointer ta, []) :: ss)) := ⟨.inl ⟨HTA.out.symm, rfl⟩, HF3.out.sces⟩
        have HRW : Hid (w3.ownsRow (q + 4) 149 1 _ ss.length ((ss.map Prod.fst).reverse)) := HF3.out.scp
        clear hd0
        go_wp2_with (at_builtin; (refine wpList_append_own_at _ rfl _ _ 64 rfl (q + 4) 149 p0 (.pointer none) 1 8 Try.underlying64 hp0 hp1 hp2 hp3 rfl (by decide) _ _ _ rfl (HRW.out.alloc _) ⟨w3.heap.size, 0, none⟩ 1 1 [((.pointer ta, []) : Sc).1] rfl rfl (new_one ((.pointer ta, []) : Sc).1 149 rfl) (by intro u hu; simp at hu; subst hu; rfl) (by unfold maxLen; omega) (by omega) (by simp <;> omega) ?_; intro v' X hown5 hgrow5 _ hat5; obtain ⟨xa, xl, xc, rfl⟩ := row_slice hown5; have HXF : Hid _ := (HF3.out.later ((Below.refl _ _).alloc (Nat.le_refl _) (.cells #[((.pointer ta, []) : Sc).1] 149))).put_scp (ss' := ((.pointer ta, []) : Sc) :: ss) HSE.out (by simpa using hown5) hgrow5 hat5; have hr5 := (HF3.out.later ((Below.refl _ _).alloc (Nat.le_refl _) (.cells #[((.pointer ta, []) : Sc).1] 149))).rowTo_scp hgrow5; have x0 : X.cell? ⟨q + 3, 3, none⟩ = some _ := (by rw [cell_of_row X _ 3 _ _ _ hr5]; rfl); have y0 : X.frozen? ⟨q + 3, 3, none⟩ = false := frozen_of_row X _ _ _ _ hr5; clear hown5 hgrow5 hat5 hr5))
        go_end0
        exact ⟨rfl, nbk, _, _, cbk, K2, HCB.out.1, HCB.out.2.1, HCB.out.2.2.1, HCB.out.2.2.2.1, HCB.out.2.2.2.2.1, HXF.out⟩
      · obtain ⟨gn, cn, cur, e1, e2, e3, e4, e5, e6, e7⟩ : ∃ gn cn cur, _ := by
          rcases HN3.out.row.2 with ⟨e, e0⟩ | ⟨gn, cn, cur, e⟩
          · exact absurd e0 hd0
          · exact ⟨gn, cn, cur, e⟩
        simp only [Value.slice.injEq] at e1
        obtain ⟨rfl, -, rfl⟩ := e1
        obtain ⟨V, hV⟩ : ∃ V, V = w3.alloc (.cells #[.pointer ta, .int .i64 (ss.length : Nat), .slice (some ⟨gn, 0, none⟩) nl nc] 152) := ⟨_, rfl⟩
        have hbV : Below w3.heap.size w3 V := by rw [hV]; exact (Below.refl _ _).alloc (Nat.le_refl _) _
        have hVn : V.heap[w3.heap.size]? = some (.cells #[.pointer ta, .int .i64 (ss.length : Nat), .slice (some ⟨gn, 0, none⟩) nl nc] 152 (0, 0)) := by rw [hV]; exact heap_alloc_new w3 _
        have hVz : V.heap.size = w3.heap.size + 1 := by rw [hV]; simp
        obtain ⟨K3, hK3⟩ : ∃ K3, K3 = (w3.heap.size, Obj.cells #[.pointer ta, .int .i64 (ss.length : Nat), .slice (some ⟨gn, 0, none⟩) nl nc] 152 (0, 0)) :: (gn, Obj.cells cur 9 (0, 0)) :: K2 := ⟨_, rfl⟩
        have hF4 := HF3.out.later hbV
        have HF4 : Hid (Fw W V q nt nbk nv (.slice sa ss.length sc0) uv acc tl cbk f ss fs K3) := by
          rw [hK3]
          have hf := HF3.out
          refine hF4.hold (fun k hk => ?_) (fun k hk => List.mem_cons_of_mem _ (List.mem_cons_of_mem _ hk))
          rcases List.mem_cons.1 hk with rfl | hk
          · refine .inr ⟨hVn, hsz3, fun e => ?_, fun e => ?_, fun e => ?_⟩
            · have := (own_blk hf.names _ e).2; simp only [] at this; omega
            · have := (own_blk hf.scp _ e).2; simp only [] at this; omega
            · have := (own_blk hf.und _ e).2; simp only [] at this; omega
          · rcases List.mem_cons.1 hk with rfl | hk
            · obtain ⟨o1, o2, o3, o4⟩ := HN3.out.far gn rfl
              exact .inr ⟨(hbV.block _ (lt_row e3)).trans e3, e2, o1, o2, o3⟩
            · exact .inl hk
        have HSE : Hid (ScE K3 ((.pointer (some ⟨w3.heap.size, 0, none⟩), dl) :: ss)) := by
          refine ⟨.inr ⟨w3.heap.size, _, _, gn, nc, cur, rfl, fun e => ?_, by rw [hK3, ← HNL.out]; exact List.mem_cons_self .., by rw [hK3]; exact List.mem_cons_of_mem _ (List.mem_cons_self ..), fun i s hs => ?_, by show 0 < dl.length; omega, HCB.out.2.2.2.2.2⟩, HF4.out.sces⟩
          · rcases HF3.out.sces.top with e9 | ⟨b9, c9, e9, k9⟩
            · rw [e9] at e; cases e
            · rw [e9] at e
              simp only [Value.pointer.injEq, Option.some.injEq, Addr.mk.injEq, and_true] at e
              have := lt_row (HF3.out.ext _ k9).1
              simp only [] at this
              omega
          · have hi : i < dl.length := (List.getElem?_eq_some_iff.1 hs).1
            have h1 := congrArg (fun l : List Value => l[i]?) e7
            rw [List.getElem?_take_of_lt (by omega), List.getElem?_map, hs] at h1
            rw [← Array.getElem?_toList]
            exact h1
        have HRW : Hid (V.ownsRow (q + 4) 149 1 _ ss.length ((ss.map Prod.fst).reverse)) := HF4.out.scp
        obtain ⟨_, _, _, v3, _, _, vz⟩ := HF4.out.cells
        have y3 := vz 3
        have hnl' : (0 : Int) < (nl : Int) := by have := HNL.out; omega
        rw [hV] at v3 y3 HRW
        have HV : Hid (V = _) := hV
        have hsz4 := HF4.out.sz
        rw [HV.out] at HF4
        clear hV hbV hVn hK3 hF4 vz HN3 e2 e3 e4 e5 e6 e7 hd0 HF3
        go_wp2_with (at_builtin; (refine wpList_append_own_at _ rfl _ _ 64 rfl (q + 4) 149 p0 (.pointer none) 1 8 Try.underlying64 hp0 hp1 hp2 hp3 rfl (by decide) _ _ _ rfl (HRW.out.alloc _) ⟨w3.heap.size + 1, 0, none⟩ 1 1 [((.pointer (some ⟨w3.heap.size, 0, none⟩), dl) : Sc).1] rfl rfl (new_one ((.pointer (some ⟨w3.heap.size, 0, none⟩), dl) : Sc).1 149 (by simp)) (by intro u hu; simp at hu; subst hu; rfl) (by unfold maxLen; omega) (by omega) (by simp <;> omega) ?_; intro v' X hown5 hgrow5 _ hat5; obtain ⟨xa, xl, xc, rfl⟩ := row_slice hown5; have HXF : Hid _ := (HF4.out.later ((Below.refl _ _).alloc (Nat.le_refl _) (.cells #[((.pointer (some ⟨w3.heap.size, 0, none⟩), dl) : Sc).1] 149))).put_scp (ss' := ((.pointer (some ⟨w3.heap.size, 0, none⟩), dl) : Sc) :: ss) HSE.out (by simpa using hown5) hgrow5 hat5; have hr5 := (HF4.out.later ((Below.refl _ _).alloc (Nat.le_refl _) (.cells #[((.pointer (some ⟨w3.heap.size, 0, none⟩), dl) : Sc).1] 149))).rowTo_scp hgrow5; have x0 : X.cell? ⟨q + 3, 3, none⟩ = some _ := (by rw [cell_of_row X _ 3 _ _ _ hr5]; rfl); have y0 : X.frozen? ⟨q + 3, 3, none⟩ = false := frozen_of_row X _ _ _ _ hr5; clear hown5 hgrow5 hat5 hr5))
        go_end0
        exact ⟨rfl, nbk, _, _, cbk, K3, HCB.out.1, HCB.out.2.1, HCB.out.2.2.1, HCB.out.2.2.2.1, HCB.out.2.2.2.2.1, HXF.out⟩

end Go.Proofs.Ytpokheklplcamaa

/- The program's FreeOf: what is told of the lists under way. -/
namespace Go.Proofs.Ytpokheklplcamaa
open Go.RowKit
set_option linter.unusedVariables false

/-- What is told: what is in hand (ext, E), what is under way. -/
def Lf (W : World) (q nt nb : Nat) (acc : List ByteArray) (f : Addr → Int → Option Value) (fs : List Fs) (ss : List Sc) (cb : List ByteArray) (ext : List Nat) (E R : Nat) (F : List ByteArray → List ByteArray) : Prop :=
  ∃ rs, FTS W fs ss cb rs R F ∧ (∀ g, (ext ++ rs).count g ≤ 1) ∧ (∀ g ∈ ext ++ rs, g < q) ∧ (∀ x n v, f x n = some v → ¬ x.block ∈ ext ++ rs) ∧ nt + nb + acc.length + (R + E) ≤ 20000000

theorem Lf.less {W : World} {q nt nb nt' nb' : Nat} {acc acc' : List ByteArray} {f : Addr → Int → Option Value} {fs : List Fs} {ss : List Sc} {cb : List ByteArray} {ext ext' : List Nat} {E E' R : Nat} {F : List ByteArray → List ByteArray} (h : Lf W q nt nb acc f fs ss cb ext E R F) (hc : ∀ g, ext'.count g ≤ ext.count g) (hE : nt' + nb' + acc'.length + E' ≤ nt + nb + acc.length + E) : Lf W q nt' nb' acc' f fs ss cb ext' E' R F := by
  obtain ⟨rs, h1, h2, h3, h4, h5⟩ := h
  have hm : ∀ g, g ∈ ext' ++ rs → g ∈ ext ++ rs := fun g hg => by
    rcases List.mem_append.1 hg with hg | hg
    · have := List.count_pos_iff.2 hg
      exact List.mem_append_left _ (List.count_pos_iff.1 (by have := hc g; omega))
    · exact List.mem_append_right _ hg
  refine ⟨rs, h1, fun g => ?_, fun g hg => h3 g (hm g hg), fun x n v hv hx => h4 x n v hv (hm _ hx), by omega⟩
  have q1 := h2 g
  have q2 := hc g
  rw [List.count_append] at q1 ⊢
  omega

theorem Lf.pushP {W : World} {q nt nb : Nat} {acc : List ByteArray} {f : Addr → Int → Option Value} {fs : List Fs} {ss : List Sc} {cb : List ByteArray} {ext : List Nat} {E R d : Nat} {F : List ByteArray → List ByteArray} {ve : Value} {xs : List (Ex d)} {f1 : List Nat} (o : OwnRow 5 27 (ExO d) W ve xs f1) (h0 : 0 < xs.length) (hz : szRow (szX d) xs ≤ 1048576) (h : Lf W q nt nb acc f fs ss cb (f1 ++ ext) (1 + (xs.map fun x => wkF d x).sum + E) R F) :
    Lf W q nt nb acc f ((ve, .slice none 0 0, 0) :: fs) ss cb ext E (1 + (xs.map fun x => wkF d x).sum + R) (fun o => F (xs.foldl (fun o x => freeX d cb o x) o)) := by
  rcases o with ⟨e, _⟩ | ⟨g, c, cur, fps, q1, q2, q3, q4, q5⟩
  · rw [e] at h0; cases h0
  obtain ⟨rs, h1, h2, h3, h4, h5⟩ := h
  have hn : xs.length ≤ szRow (szX d) xs := Nat.le_add_right _ _
  have hp : ∀ g, (ext ++ (f1 ++ rs)).count g = (f1 ++ ext ++ rs).count g := fun g => by simp only [List.count_append]; omega
  have hm : ∀ g, g ∈ ext ++ (f1 ++ rs) → g ∈ f1 ++ ext ++ rs := fun g hg => List.count_pos_iff.1 (by rw [← hp]; exact List.count_pos_iff.2 hg)
  refine ⟨f1 ++ rs, .inl ⟨f1, _, _, rs, R, F, ⟨d, xs, g, c, cur, fps, q1, rfl, q2, q3.1, h0, by omega, Nat.zero_le _, fun i x hx => ?_, ?_, rfl, rfl⟩, h1, rfl, rfl, rfl⟩, fun g => by rw [hp]; exact h2 g, fun g hg => h3 g (hm g hg), fun x n v hv hx => h4 x n v hv (hm _ hx), by omega⟩
  · obtain ⟨vs, f', e1, e2, e3, e4⟩ := q5 i x hx
    exact ⟨vs, f', e1, e2, e3, e4, Nat.le_trans (szRow_mem (f := szX d) hx) hz⟩
  · rw [q4]; rfl

theorem Lf.pushC {W : World} {q nt nb : Nat} {acc : List ByteArray} {f : Addr → Int → Option Value} {fs : List Fs} {ss : List Sc} {cb : List ByteArray} {ext : List Nat} {E R d : Nat} {F : List ByteArray → List ByteArray} {ve : Value} {xs : List (Ex d × Ex d)} {f1 : List Nat} (o : OwnRow 10 33 (ClO (ExO d)) W ve xs f1) (h0 : 0 < xs.length) (hz : szRow (ClF (szX d)) xs ≤ 1048576) (h : Lf W q nt nb acc f fs ss cb (f1 ++ ext) (1 + (xs.map fun c => 8 + (vars d c.1).length + wkF d c.2).sum + E) R F) :
    Lf W q nt nb acc f ((.slice none 0 0, ve, 0) :: fs) ss cb ext E (1 + (xs.map fun c => 8 + (vars d c.1).length + wkF d c.2).sum + R) (fun o => F (xs.foldl (fun o c => freeX d (cb ++ vars d c.1) o c.2) o)) := by
  rcases o with ⟨e, _⟩ | ⟨g, c, cur, fps, q1, q2, q3, q4, q5⟩
  · rw [e] at h0; cases h0
  obtain ⟨rs, h1, h2, h3, h4, h5⟩ := h
  have hn : xs.length ≤ szRow (ClF (szX d)) xs := Nat.le_add_right _ _
  have hp : ∀ g, (ext ++ (f1 ++ rs)).count g = (f1 ++ ext ++ rs).count g := fun g => by simp only [List.count_append]; omega
  have hm : ∀ g, g ∈ ext ++ (f1 ++ rs) → g ∈ f1 ++ ext ++ rs := fun g hg => List.count_pos_iff.1 (by rw [← hp]; exact List.count_pos_iff.2 hg)
  refine ⟨f1 ++ rs, .inr (.inl ⟨rfl, f1, _, _, rs, R, F, ⟨d, xs, g, c, cur, fps, q1, rfl, q2, q3.1, h0, by omega, Nat.zero_le _, fun i x hx => ?_, ?_, rfl, rfl⟩, h1, rfl, rfl, rfl⟩), fun g => by rw [hp]; exact h2 g, fun g hg => h3 g (hm g hg), fun x n v hv hx => h4 x n v hv (hm _ hx), by omega⟩
  · obtain ⟨vs, f', e1, e2, e3, ps, us, g1, g2, rfl, rfl, e4, e5⟩ := q5 i x hx
    have hs : szX d x.1 + szX d x.2 ≤ 1048576 := Nat.le_trans (szRow_mem (f := ClF (szX d)) hx) hz
    have l1 : ps.length = 5 := by obtain ⟨_, _, _, _, _, _, _, _, _, rfl⟩ := ExO.shape d _ _ _ _ e4; rfl
    have l2 : us.length = 5 := by obtain ⟨_, _, _, _, _, _, _, _, _, rfl⟩ := ExO.shape d _ _ _ _ e5; rfl
    exact ⟨ps, us, g1, g2, e1, l1, l2, e3, e4, e5, by omega, by omega⟩
  · rw [q4]; rfl

theorem tellX_len (b out : List ByteArray) (k : Int) (s : ByteArray) : (tellX b out k s).length ≤ out.length + 1 := by
  unfold tellX
  split
  · simp
  · omega

/-- An expression in hand is told, its lists are put to what is under way. -/
theorem Lf.come {W : World} {q nt nt' nb d : Nat} {acc : List ByteArray} {f : Addr → Int → Option Value} {fs : List Fs} {ss : List Sc} {cb : List ByteArray} {ext : List Nat} {E R : Nat} {F : List ByteArray → List ByteArray} {x : Ex (d + 1)} {ve vc : Value} {f1 f2 : List Nat} (o1 : OwnRow 5 27 (ExO d) W ve x.E f1) (o2 : OwnRow 10 33 (ClO (ExO d)) W vc x.C f2) (hz : szX (d + 1) x ≤ 1048576) (h : Lf W q nt nb acc f fs ss cb (f1 ++ f2 ++ ext) (wkF (d + 1) x + E) R F) (hn : nt' ≤ nt + 1) :
    ∃ R' F', Lf W q nt' nb (tellX cb acc x.K x.S) f ((if 0 < x.E.length then [(ve, .slice none 0 0, 0)] else []) ++ ((if 0 < x.C.length then [(.slice none 0 0, vc, 0)] else []) ++ fs)) ss cb ext E R' F' ∧ R' + 6 ≤ R + wkF (d + 1) x ∧ F' (tellX cb acc x.K x.S) = F (freeX (d + 1) cb acc x) := by
  have hz1 : x.S.size + szRow (szX d) x.E + szRow (ClF (szX d)) x.C ≤ 1048576 := hz
  obtain ⟨sE, hsE⟩ : ∃ s, (x.E.map fun x => wkF d x).sum = s := ⟨_, rfl⟩
  obtain ⟨sC, hsC⟩ : ∃ s, (x.C.map fun c => 8 + (vars d c.1).length + wkF d c.2).sum = s := ⟨_, rfl⟩
  have hwk : wkF (d + 1) x = 8 + sE + sC := by rw [← hsE, ← hsC]; rfl
  have hl := tellX_len cb acc x.K x.S
  have hfr : freeX (d + 1) cb acc x = x.C.foldl (fun o c => freeX d (cb ++ vars d c.1) o c.2) (x.E.foldl (fun o x => freeX d cb o x) (tellX cb acc x.K x.S)) := rfl
  rw [hwk] at h ⊢
  have h1 : Lf W q nt' nb (tellX cb acc x.K x.S) f fs ss cb (f2 ++ (f1 ++ ext)) (1 + sC + (1 + sE + E)) R F := h.less (fun g => by simp only [List.count_append]; omega) (by omega)
  have h2 : ∃ RC FC, Lf W q nt' nb (tellX cb acc x.K x.S) f ((if 0 < x.C.length then [(.slice none 0 0, vc, 0)] else []) ++ fs) ss cb (f1 ++ ext) (1 + sE + E) RC FC ∧ RC ≤ 1 + sC + R ∧ ∀ o, FC o = F (x.C.foldl (fun o c => freeX d (cb ++ vars d c.1) o c.2) o) := by
    by_cases hc : 0 < x.C.length
    · rw [if_pos hc]
      rw [← hsC] at h1
      have := h1.pushC o2 hc (by omega)
      rw [hsC] at this
      exact ⟨_, _, this, Nat.le_refl _, fun o => rfl⟩
    · rw [if_neg hc]
      have he : x.C = [] := List.length_eq_zero_iff.1 (by omega)
      exact ⟨R, F, h1.less (fun g => by simp only [List.count_append]; omega) (by omega), by omega, fun o => by rw [he]; rfl⟩
  obtain ⟨RC, FC, h2, h3, h4⟩ := h2
  by_cases hc : 0 < x.E.length
  · rw [if_pos hc]
    rw [← hsE] at h2
    have := h2.pushP o1 hc (by omega)
    rw [hsE] at this
    exact ⟨_, _, this, by omega, by rw [hfr]; exact h4 _⟩
  · rw [if_neg hc]
    have he : x.E = [] := List.length_eq_zero_iff.1 (by omega)
    exact ⟨RC, FC, h2.less (fun g => by simp only [List.count_append]; omega) (by omega), by omega, by rw [hfr, he, h4]; rfl⟩

end Go.Proofs.Ytpokheklplcamaa

/- The program's FreeOf: an expression comes. -/
namespace Go.Proofs.Ytpokheklplcamaa
open Go.RowKit
set_option linter.unusedVariables false

theorem Try.fieldU (b o : Nat) (w : World) : (Instr.fieldAt 67 (.pointer (some ⟨b, o, none⟩)) 5).run Try.prog w = .ok (.pointer (some ⟨b, o + 5, none⟩)) w := by go_simp
theorem Try.fieldX3 (b o : Nat) (w : World) : (Instr.fieldAt 27 (.pointer (some ⟨b, o, none⟩)) 3).run Try.prog w = .ok (.pointer (some ⟨b, o + 3, none⟩)) w := by go_simp
theorem Try.fieldX4 (b o : Nat) (w : World) : (Instr.fieldAt 27 (.pointer (some ⟨b, o, none⟩)) 4).run Try.prog w = .ok (.pointer (some ⟨b, o + 4, none⟩)) w := by go_simp
theorem Try.loadU (ad : Addr) (a : Option Addr) (l c : Nat) (w : World) (h : w.cell? ad = some (.slice a l c)) : (Instr.loadAt 65 (.pointer (some ad))).run Try.prog w = .ok (.slice a l c) w := by go_simp
theorem Try.load3 (ad : Addr) (a : Option Addr) (l c : Nat) (w : World) (h : w.cell? ad = some (.slice a l c)) : (Instr.loadAt 24 (.pointer (some ad))).run Try.prog w = .ok (.slice a l c) w := by go_simp
theorem Try.load4 (ad : Addr) (a : Option Addr) (l c : Nat) (w : World) (h : w.cell? ad = some (.slice a l c)) : (Instr.loadAt 25 (.pointer (some ad))).run Try.prog w = .ok (.slice a l c) w := by go_simp
theorem run_load {P : Program} {a : Act} {o : Oper} {x t : Nat} {ad : Addr} {v : Value} {w : World} (hl : (Instr.loadAt t (.pointer (some ad))).run P w = .ok v w) (ho : o.op = .load t (.tmp x)) (h : a.eval (.tmp x) = .pointer (some ad)) : (execOp a.eval o).run P w = .ok (.value v) w := by
  simp [execOp, ho, h, hl, Result.andThen]
theorem Try.build3 (a : Option Addr) (l c : Nat) (w : World) : (Instr.build 109 #[(0, .slice a l c)]).run Try.prog w = .ok (.agg #[.slice a l c, .slice none 0 0, .int .i64 0]) w := by go_simp
theorem Try.build4 (a : Option Addr) (l c : Nat) (w : World) : (Instr.build 109 #[(1, .slice a l c)]).run Try.prog w = .ok (.agg #[.slice none 0 0, .slice a l c, .int .i64 0]) w := by go_simp
theorem run_build {P : Program} {a : Act} {o : Oper} {t i x : Nat} {v r : Value} (hb : ∀ w, (Instr.build t #[(i, v)]).run P w = .ok r w) (ho : o.op = .build t #[(i, .tmp x)]) (h : a.eval (.tmp x) = v) (w : World) : (execOp a.eval o).run P w = .ok (.value r) w := by
  simp [execOp, ho, h, hb, Result.andThen]
theorem Try.buildU3 (b : Option Addr) (l c : Nat) (w : World) : (Instr.buildSlice 65 1 #[(0, .agg #[.slice b l c, .slice none 0 0, .int .i64 0])]).run Try.prog w = .ok (.slice (some ⟨w.heap.size, 0, none⟩) 1 1) (w.alloc (.cells #[.slice b l c, .slice none 0 0, .int .i64 0] 109)) := by
  go_simp
theorem Try.buildU4 (b : Option Addr) (l c : Nat) (w : World) : (Instr.buildSlice 65 1 #[(0, .agg #[.slice none 0 0, .slice b l c, .int .i64 0])]).run Try.prog w = .ok (.slice (some ⟨w.heap.size, 0, none⟩) 1 1) (w.alloc (.cells #[.slice none 0 0, .slice b l c, .int .i64 0] 109)) := by
  go_simp
theorem run_buildSlice {P : Program} {a : Act} {o : Oper} {t i n x : Nat} {v r : Value} {w w' : World} (hb : (Instr.buildSlice t n #[(i, v)]).run P w = .ok r w') (ho : o.op = .buildSlice t n #[(i, .tmp x)]) (h : a.eval (.tmp x) = v) : (execOp a.eval o).run P w = .ok (.value r) w' := by
  simp [execOp, ho, h, hb, Result.andThen]
theorem Try.storeU (ad : Addr) (a b : Option Addr) (l c l' c' : Nat) (w : World) (h : w.cell? ad = some (.slice a l c)) (hz : w.frozen? ad = false) : (Instr.storeAt 65 (.pointer (some ad)) (.slice b l' c')).run Try.prog w = .ok () (w.setCell ad (.slice b l' c')) := by go_simp
theorem run_store {P : Program} {a : Act} {o : Oper} {t x y : Nat} {ad : Addr} {v : Value} {w w' : World} (hs : (Instr.storeAt t (.pointer (some ad)) v).run P w = .ok () w') (ho : o.op = .store t (.tmp x) (.tmp y)) (h : a.eval (.tmp x) = .pointer (some ad)) (h' : a.eval (.tmp y) = v) : (execOp a.eval o).run P w = .ok .skip w' := by
  simp [execOp, ho, h, h', hs, Result.andThen]
theorem step_val {P : Program} {ops : Array Oper} {o : Oper} {a : Act} {w w' : World} {K : Act → World → Prop} {Q : Exit → Act → World → Prop} {E : Prop} {v : Value} (hg : o.guard = none) (hr : (execOp a.eval o).run P w = .ok (.value v) w') (h : K (a.put o.dst v) w') : if Region.wanted o (yielded ops a.tmps) = true then Oper.wp P o a w K Q else E := by
  rw [if_pos (by simp [Region.wanted, hg])]
  unfold Oper.wp
  rw [hr, Oper.upon_value]
  exact h
theorem step_skip {P : Program} {ops : Array Oper} {o : Oper} {a : Act} {w w' : World} {K : Act → World → Prop} {Q : Exit → Act → World → Prop} {E : Prop} (hg : o.guard = none) (hr : (execOp a.eval o).run P w = .ok .skip w') (h : K (a.put o.dst undef) w') : if Region.wanted o (yielded ops a.tmps) = true then Oper.wp P o a w K Q else E := by
  rw [if_pos (by simp [Region.wanted, hg])]
  unfold Oper.wp
  rw [hr, Oper.upon_skip]
  exact h
theorem put_comm (a : Act) {i j : Nat} (h : i ≠ j) (x y : Value) : (a.put (some i) x).put (some j) y = (a.put (some j) y).put (some i) x := by
  simp only [Act.put]
  rw [Array.setIfInBounds_comm _ _ h]
/-- Two loads that may come in either order. -/
theorem wpAny_loads {P : Program} {md : Region.Mode} {ops : Array Oper} {Q : Exit → Act → World → Prop} {i j fuel di dj : Nat} {oi oj : Oper} {vi vj : Value} {ls : Array Bool} {a : Act} {w : World} (hi : ops[i]? = some oi) (hj : ops[j]? = some oj) (hij : i ≠ j ∧ di ≠ dj) (hr : Region.ready md ops ls = [i, j]) (hri : Region.ready md ops (ls.setIfInBounds i true) = [j]) (hrj : Region.ready md ops (ls.setIfInBounds j true) = [i])
    (hgi : oi.guard = none ∧ oi.dst = some di) (hgj : oj.guard = none ∧ oj.dst = some dj) (ri : (execOp a.eval oi).run P w = .ok (.value vi) w) (rj' : ∀ v, (execOp (a.put (some di) v).eval oj).run P w = .ok (.value vj) w) (rj : (execOp a.eval oj).run P w = .ok (.value vj) w) (ri' : ∀ v, (execOp (a.put (some dj) v).eval oi).run P w = .ok (.value vi) w)
    (h : wpAny P md ops Q fuel ((ls.setIfInBounds i true).setIfInBounds j true) ((a.put (some di) vi).put (some dj) vj) w) : wpAny P md ops Q (fuel + 1 + 1) ls a w := by
  refine wpAny_ready hr (by simp) (AllReady.cons hi (fun K hK => ?_) (AllReady.cons hj (fun K hK => ?_) AllReady.nil))
  · refine step_val hgi.1 ri (hK _ _ ?_)
    rw [hgi.2]
    refine wpAny_ready hri (by simp) (AllReady.cons hj (fun K hK => ?_) AllReady.nil)
    refine step_val hgj.1 (rj' _) (hK _ _ ?_)
    rw [hgj.2]
    exact h
  · refine step_val hgj.1 rj (hK _ _ ?_)
    rw [hgj.2]
    refine wpAny_ready hrj (by simp) (AllReady.cons hi (fun K hK => ?_) AllReady.nil)
    refine step_val hgi.1 (ri' _) (hK _ _ ?_)
    rw [hgi.2, put_comm _ hij.2.symm, Array.setIfInBounds_comm _ _ hij.1.symm]
    exact h
theorem Try.infoStay : (Try.prog.info? 109).map (fun i => (i.zero, i.size, i.bytes)) = some (some (.agg #[.slice none 0 0, .slice none 0 0, .int .i64 0]), 3, 56) := by kernel_rfl
theorem three_put (w : World) (a b c : Value) (t : TypeId) : ∀ j u, [a, b, c][j]? = some u → (w.alloc (.cells #[a, b, c] t)).cell? ((⟨w.heap.size, 0, none⟩ : Addr).add j) = some u := by
  intro j u hj
  match j, hj with
  | 0, hj => simp at hj; subst hj; simp [Addr.add]
  | 1, hj => simp at hj; subst hj; simp [Addr.add]
  | 2, hj => simp at hj; subst hj; simp [Addr.add]

/-- A load, and a load, what is built of it and laid: the first may come at any time. -/
theorem wpAny_inter {P : Program} {md : Region.Mode} {ops : Array Oper} {Q : Exit → Act → World → Prop} {fuel s4 s8 d4 d8 d9 d10 : Nat} {o4 o8 o9 o10 : Oper} {p4 p8 v4 v8 v9 v10 : Value} {ls : Array Bool} {a : Act} {w w' : World} (i4 : ops[4]? = some o4) (i8 : ops[8]? = some o8) (i9 : ops[9]? = some o9) (i10 : ops[10]? = some o10)
    (hs : d8 < a.tmps.size ∧ d9 < a.tmps.size) (hne : d4 ≠ d8 ∧ d4 ≠ d9 ∧ d4 ≠ d10 ∧ d8 ≠ s4 ∧ d9 ≠ s4 ∧ d10 ≠ s4 ∧ d4 ≠ s8)
    (r0 : Region.ready md ops ls = [4, 8]) (r4 : Region.ready md ops (ls.setIfInBounds 4 true) = [8]) (r48 : Region.ready md ops ((ls.setIfInBounds 4 true).setIfInBounds 8 true) = [9]) (r489 : Region.ready md ops (((ls.setIfInBounds 4 true).setIfInBounds 8 true).setIfInBounds 9 true) = [10])
    (r8 : Region.ready md ops (ls.setIfInBounds 8 true) = [4, 9]) (r89 : Region.ready md ops ((ls.setIfInBounds 8 true).setIfInBounds 9 true) = [4, 10]) (r890 : Region.ready md ops (((ls.setIfInBounds 8 true).setIfInBounds 9 true).setIfInBounds 10 true) = [4])
    (g4 : o4.guard = none ∧ o4.dst = some d4) (g8 : o8.guard = none ∧ o8.dst = some d8) (g9 : o9.guard = none ∧ o9.dst = some d9) (g10 : o10.guard = none ∧ o10.dst = some d10)
    (e4 : a.eval (.tmp s4) = p4) (e8 : a.eval (.tmp s8) = p8)
    (h4 : ∀ b : Act, b.eval (.tmp s4) = p4 → (execOp b.eval o4).run P w = .ok (.value v4) w) (h4' : ∀ b : Act, b.eval (.tmp s4) = p4 → (execOp b.eval o4).run P w' = .ok (.value v4) w') (h8 : ∀ b : Act, b.eval (.tmp s8) = p8 → (execOp b.eval o8).run P w = .ok (.value v8) w) (h9 : ∀ b : Act, b.eval (.tmp d8) = v8 → (execOp b.eval o9).run P w = .ok (.value v9) w) (h10 : ∀ b : Act, b.eval (.tmp d9) = v9 → (execOp b.eval o10).run P w = .ok (.value v10) w')
    (h : wpAny P md ops Q fuel ((((ls.setIfInBounds 4 true).setIfInBounds 8 true).setIfInBounds 9 true).setIfInBounds 10 true) ((((a.put (some d4) v4).put (some d8) v8).put (some d9) v9).put (some d10) v10) w') : wpAny P md ops Q (fuel + 1 + 1 + 1 + 1) ls a w := by
  obtain ⟨n1, n2, n3, n4, n5, n6, n7⟩ := hne
  refine wpAny_ready r0 (by simp) (AllReady.cons i4 (fun K hK => ?_) (AllReady.cons i8 (fun K hK => ?_) AllReady.nil))
  · refine step_val g4.1 (h4 a e4) (hK _ _ ?_)
    rw [g4.2]
    refine wpAny_ready r4 (by simp) (AllReady.cons i8 (fun K hK => ?_) AllReady.nil)
    refine step_val g8.1 (h8 _ (by rw [put_ne n7]; exact e8)) (hK _ _ ?_)
    rw [g8.2]
    refine wpAny_ready r48 (by simp) (AllReady.cons i9 (fun K hK => ?_) AllReady.nil)
    refine step_val g9.1 (h9 _ (put_same (by rw [put_size]; exact hs.1))) (hK _ _ ?_)
    rw [g9.2]
    refine wpAny_ready r489 (by simp) (AllReady.cons i10 (fun K hK => ?_) AllReady.nil)
    refine step_val g10.1 (h10 _ (put_same (by rw [put_size, put_size]; exact hs.2))) (hK _ _ ?_)
    rw [g10.2]
    exact h
  · refine step_val g8.1 (h8 a e8) (hK _ _ ?_)
    rw [g8.2]
    refine wpAny_ready r8 (by simp) (AllReady.cons i4 (fun K hK => ?_) (AllReady.cons i9 (fun K hK => ?_) AllReady.nil))
    · refine step_val g4.1 (h4 _ (by rw [put_ne n4]; exact e4)) (hK _ _ ?_)
      rw [g4.2, Array.setIfInBounds_comm _ _ (by decide : (8 : Nat) ≠ 4), put_comm _ n1.symm]
      refine wpAny_ready r48 (by simp) (AllReady.cons i9 (fun K hK => ?_) AllReady.nil)
      refine step_val g9.1 (h9 _ (put_same (by rw [put_size]; exact hs.1))) (hK _ _ ?_)
      rw [g9.2]
      refine wpAny_ready r489 (by simp) (AllReady.cons i10 (fun K hK => ?_) AllReady.nil)
      refine step_val g10.1 (h10 _ (put_same (by rw [put_size, put_size]; exact hs.2))) (hK _ _ ?_)
      rw [g10.2]
      exact h
    · refine step_val g9.1 (h9 _ (put_same hs.1)) (hK _ _ ?_)
      rw [g9.2]
      refine wpAny_ready r89 (by simp) (AllReady.cons i4 (fun K hK => ?_) (AllReady.cons i10 (fun K hK => ?_) AllReady.nil))
      · refine step_val g4.1 (h4 _ (by rw [put_ne n5, put_ne n4]; exact e4)) (hK _ _ ?_)
        rw [g4.2, Array.setIfInBounds_comm _ _ (by decide : (9 : Nat) ≠ 4), Array.setIfInBounds_comm (xs := ls) _ _ (by decide : (8 : Nat) ≠ 4), put_comm _ n2.symm, put_comm a n1.symm]
        refine wpAny_ready r489 (by simp) (AllReady.cons i10 (fun K hK => ?_) AllReady.nil)
        refine step_val g10.1 (h10 _ (put_same (by rw [put_size, put_size]; exact hs.2))) (hK _ _ ?_)
        rw [g10.2]
        exact h
      · refine step_val g10.1 (h10 _ (put_same (by rw [put_size]; exact hs.2))) (hK _ _ ?_)
        rw [g10.2]
        refine wpAny_ready r890 (by simp) (AllReady.cons i4 (fun K hK => ?_) AllReady.nil)
        refine step_val g4.1 (h4' _ (by rw [put_ne n6, put_ne n5, put_ne n4]; exact e4)) (hK _ _ ?_)
        rw [g4.2, Array.setIfInBounds_comm _ _ (by decide : (10 : Nat) ≠ 4), Array.setIfInBounds_comm (xs := ls.setIfInBounds 8 true) _ _ (by decide : (9 : Nat) ≠ 4), Array.setIfInBounds_comm (xs := ls) _ _ (by decide : (8 : Nat) ≠ 4), put_comm _ n3.symm, put_comm (a.put (some d8) v8) n2.symm, put_comm a n1.symm]
        exact h

end Go.Proofs.Ytpokheklplcamaa
