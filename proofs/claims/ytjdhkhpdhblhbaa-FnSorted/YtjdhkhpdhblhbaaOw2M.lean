/- A list of terms copied once, as its parts lie; a text, out of what room is left. -/
import Derived.Test.YtjdhkhpdhblhbaaOw1M
import Derived.Test.YtjdhkhpdhblhbaaShelf
import Derived.Test.YtjdhkhpdhblhbaaRowM
namespace Go.Proofs.Ytjdhkhpdhblhbaa
open Go.RowKit
set_option linter.unusedVariables false

theorem cloneS_any (s : ByteArray) (w : World) (hlim : s.size ≤ 281474976710656) :
    Calls Try.prog 86 #[.string s] w fun e w' => e = .returned (.string s) ∧ Below w.heap.size w w' := by
  have hL := Try.stringslite_Clone s w hlim
  go_enter Try.func86, Try.ntmps86
  go_wp2_with fail
  refine hL.mono ?_
  clear hL
  rintro e w' ⟨rfl, hb⟩
  go_wp2_with fail
  go_ret
  exact ⟨rfl, hb⟩

/-- The cells of a list of terms. -/
theorem rdq_cells {d : Nat} (w : World) : ∀ (ts : List (Tm (d + 1))) (b o : Nat), (∀ (i : Nat) (t : Tm (d + 1)), ts[i]? = some t → ∃ lv, Four w b (o + i * 4) t.K t.N t.S lv ∧ RdQ d w lv t.L) →
    ∃ news : List Value, news.length = ts.length * 4 ∧ (∀ j u, news[j]? = some u → w.cell? ⟨b, o + j, none⟩ = some u) ∧ (∀ u ∈ news, u.oneCell' = true) ∧
      ∀ (i : Nat) (t : Tm (d + 1)), ts[i]? = some t → ∃ lv, news[i * 4]? = some (.int .i64 t.K) ∧ news[i * 4 + 1]? = some (.int .i64 t.N) ∧ news[i * 4 + 2]? = some (.string t.S) ∧ news[i * 4 + 3]? = some lv ∧ RdQ d w lv t.L := by
  intro ts
  induction ts with
  | nil => intro b o _; exact ⟨[], rfl, fun j u h => by simp at h, fun u h => by simp at h, fun i t h => by simp at h⟩
  | cons t ts ih =>
    intro b o h
    obtain ⟨lv, hF, hR⟩ := h 0 t rfl
    obtain ⟨a, c, hlv⟩ := hR.len
    obtain ⟨news, n1, n2, n3, n4⟩ := ih b (o + 4) (fun i u hu => by
      have := h (i + 1) u hu
      rwa [show o + (i + 1) * 4 = o + 4 + i * 4 by omega] at this)
    refine ⟨.int .i64 t.K :: .int .i64 t.N :: .string t.S :: lv :: news, by simp [n1]; omega, ?_, ?_, ?_⟩
    · intro j u hu
      rw [Nat.zero_mul] at hF
      match j, hu with
      | 0, hu => simp at hu; subst hu; exact hF.1
      | 1, hu => simp at hu; subst hu; exact hF.2.1
      | 2, hu => simp at hu; subst hu; exact hF.2.2.1
      | 3, hu => simp at hu; subst hu; exact hF.2.2.2
      | j + 4, hu =>
        have := n2 j u (by simpa using hu)
        rwa [show o + (j + 4) = o + 4 + j by omega]
    · intro u hu
      simp only [List.mem_cons] at hu
      rcases hu with rfl | rfl | rfl | rfl | hu
      · rfl
      · rfl
      · rfl
      · rw [hlv]; rfl
      · exact n3 u hu
    · intro i u hu
      cases i with
      | zero =>
        simp only [List.getElem?_cons_zero, Option.some.injEq] at hu
        subst hu
        exact ⟨lv, by simp, by simp, by simp, by simp, hR⟩
      | succ i =>
        simp only [List.getElem?_cons_succ] at hu
        obtain ⟨lv', e0, e1, e2, e3, e4⟩ := n4 i u hu
        refine ⟨lv', ?_, ?_, ?_, ?_, e4⟩
        · rw [show (i + 1) * 4 = i * 4 + 1 + 1 + 1 + 1 by omega]; simpa using e0
        · rw [show (i + 1) * 4 + 1 = i * 4 + 1 + 1 + 1 + 1 + 1 by omega]; simpa using e1
        · rw [show (i + 1) * 4 + 2 = i * 4 + 2 + 1 + 1 + 1 + 1 by omega]; simpa using e2
        · rw [show (i + 1) * 4 + 3 = i * 4 + 3 + 1 + 1 + 1 + 1 by omega]; simpa using e3

/-- A list lies copied in the row at g, its parts where they were. -/
def ClonedAt (w w' : World) (d : Nat) (ts : List (Tm (d + 1))) (g c : Nat) : Prop :=
  ∃ cur, w'.heap[g]? = some (.cells cur 29 (0, 0)) ∧ cur.size = c * 4 ∧ ts.length ≤ c ∧ ∀ (i : Nat) (t : Tm (d + 1)), ts[i]? = some t → ∃ lv, CellsAt cur i t lv ∧ RdQ d w lv t.L

theorem RdQ.open {d : Nat} {w : World} {v : Value} {ts : List (Tm (d + 1))} (h : RdQ (d + 1) w v ts) (hne : ts ≠ []) : ∃ b o c, v = .slice (some ⟨b, o, none⟩) ts.length c ∧ Plain w ⟨b, o, none⟩ ∧ ∀ (i : Nat) (t : Tm (d + 1)), ts[i]? = some t → ∃ lv, Four w b (o + i * 4) t.K t.N t.S lv ∧ RdQ d w lv t.L := by
  obtain ⟨a, c, rfl, hel⟩ := h
  obtain ⟨t0, ts0, rfl⟩ : ∃ t l, ts = t :: l := by cases ts with | nil => exact absurd rfl hne | cons t l => exact ⟨t, l, rfl⟩
  obtain ⟨b, o, lv, rfl, hp, _, _⟩ := hel 0 t0 rfl
  refine ⟨b, o, c, rfl, hp, fun i t ht => ?_⟩
  obtain ⟨b', o', lv', e, _, h4, h5⟩ := hel i t ht
  simp only [Option.some.injEq, Addr.mk.injEq, and_true] at e
  obtain ⟨rfl, rfl⟩ := e
  exact ⟨lv', h4, h5⟩

theorem cloned_of {d : Nat} {w w' : World} {B n : Nat} {v : Value} {ts : List (Tm (d + 1))} {news : List Value} (hn : ts.length = n) (h0 : 0 < n) (h : w'.ownsRow B 29 4 v n news) (hc : ∀ (i : Nat) (t : Tm (d + 1)), ts[i]? = some t → ∃ lv, news[i * 4]? = some (.int .i64 t.K) ∧ news[i * 4 + 1]? = some (.int .i64 t.N) ∧ news[i * 4 + 2]? = some (.string t.S) ∧ news[i * 4 + 3]? = some lv ∧ RdQ d w lv t.L) :
    ∃ g c, v = .slice (some ⟨g, 0, none⟩) n c ∧ B ≤ g ∧ ClonedAt w w' d ts g c := by
  rcases h.2 with ⟨_, h2⟩ | ⟨g, cap, cur, h1, h2, h3, h4, h5, h6, h7⟩
  · omega
  · refine ⟨g, cap, h1, h2, cur, h3, h6, by omega, fun i t ht => ?_⟩
    obtain ⟨lv, e0, e1, e2, e3, e4⟩ := hc i t ht
    have hi := (List.getElem?_eq_some_iff.1 ht).1
    have hcell : ∀ j, j < n * 4 → cur[j]? = news[j]? := fun j hj => by rw [← h7, List.getElem?_take_of_lt hj, Array.getElem?_toList]
    exact ⟨lv, ⟨by rw [hcell _ (by omega)]; exact e0, by rw [hcell _ (by omega)]; exact e1, by rw [hcell _ (by omega)]; exact e2, by rw [hcell _ (by omega)]; exact e3⟩, e4⟩

theorem eqNilTerms (w : World) (a : Option Addr) (n c n' c' : Nat) : (binOp .eql 27 (.slice a n c) (.slice none n' c')).run Try.prog w = .ok (.bool a.isNone) w := Lib.run_eql_slice_nil w _ _ a n c n' c' Try.underlying27

set_option maxHeartbeats 1000000 in
theorem cloneTerms_any (d : Nat) (v : Value) (ts : List (Tm (d + 1))) (w0 w : World) (hr : RdQ (d + 1) w0 v ts) (hw : Below w0.heap.size w0 w) (hne : ts ≠ []) (hm : ts.length ≤ 1073741824) :
    Calls Try.prog 85 #[v] w fun e w' => ∃ g c, e = .returned (.slice (some ⟨g, 0, none⟩) ts.length c) ∧ w.heap.size ≤ g ∧ ClonedAt w0 w' d ts g c ∧ Below w.heap.size w w' := by
  obtain ⟨i0, hi, hz0, hz1, hz2⟩ := info_parts Try.infoTerm
  obtain ⟨b, o, c, rfl, hp, hel⟩ := hr.open hne
  obtain ⟨news, n1, n2', n3, n4⟩ := rdq_cells w0 ts b o hel
  have n2 : ∀ j u, news[j]? = some u → w.cell? ⟨b, o + j, none⟩ = some u := fun j u hu => cell_later hw (n2' j u hu)
  have h0 : 0 < ts.length := List.length_pos_iff.2 hne
  obtain ⟨n, hn⟩ : ∃ n, ts.length = n := ⟨_, rfl⟩
  have HN : Hid (ts.length = n) := hn
  have HC : Hid _ := n4
  rw [hn] at n1 h0 hm ⊢
  have A : Hid (∀ j u, news[j]? = some u → w.cell? ⟨b, o + j, none⟩ = some u) := n2
  clear n2 n2' hr hel hne hn n4 hp hw
  have q := eqNilTerms
  go_enter Try.func85, Try.ntmps85
  go_wp2_with (at_builtin; refine wpList_append_own _ rfl _ _ 27 rfl w.heap.size 29 i0 _ 4 56 Try.underlying27 hi hz0 hz1 hz2 rfl (by decide) _ _ _ rfl (World.ownsRow_made w #[] 0 (Nat.le_refl _) (Nat.zero_le _) rfl) ⟨b, o, none⟩ n c news rfl n1 ?qc2 n3 ?qc4 ?qc5 ?qc6 ?_)
  case qc2 =>
    intro j u hj
    rw [Addr.add_lit]
    exact Lib.cell?_alloc_some _ (A.out j u hj)
  case qc4 => unfold maxLen; omega
  case qc5 => omega
  case qc6 => simp
  intro v' w1 hown hgrow hnil
  have hb : Below w.heap.size w w1 := ((Below.refl _ w).alloc (Nat.le_refl _) _).grown hgrow (by simp) (by intro k hk; simp [Value.ownBlock] at hk; omega)
  have hown' : w1.ownsRow w.heap.size 29 4 v' n news := by simpa using hown
  obtain ⟨g, c', rfl, hg, hcl⟩ := cloned_of HN.out h0 hown' HC.out
  clear hown hgrow hnil hown'
  go_wp2_with fail
  go_ret
  exact ⟨g, c', rfl, hg, hcl, hb⟩

theorem SMap.look_none {P : Program} {t k e : TypeId} (S : SpotTy P k) (ht : P.underlying t = some (.map k e)) {w : World} {x : Addr} {n : Int} (hx : Plain w x) {z : Value} (hz : (zeroValue e).run P w = .ok z w) :
    (Instr.lookup t (.map none) (skey x n) true).run P w = .ok (.tuple #[z, .bool false]) w := by
  rcases run_find S w x n hx [] [] 0 rfl (by simp) with ⟨r1, r2, r3⟩ | ⟨j, v, r1, r2, r3, r4⟩
  · simp [Instr.lookup, run_underlying ht, S.chk, run_findKey_eq w S.wide, r1, hz, Result.andThen]
  · simp [sget] at r2

theorem lookNil (w : World) (x : Addr) (n : Int) (hx : Plain w x) : (Instr.lookup 124 (.map none) (skey x n) true).run Try.prog w = .ok (.tuple #[.slice none 0 0, .bool false]) w :=
  SMap.look_none spotTerm Try.underlying124 hx (Try.zeroValue27 w)

theorem eqMapC (V : World) (d : Nat) : (Op.equalIn (d + 1) 124 (.map none) (.map none)).run Try.prog V = .ok true V := by
  rw [Op.equalIn]
  simp [run_underlying Try.underlying124]
theorem neqMapNil (V : World) : (binOp BinOp.neq 124 (.map none) (.map none)).run Try.prog V = .ok (.bool false) V := by
  have h := eqMapC V 9999
  have h' : (Op.equalIn Op.maxDepth 124 (.map none) (.map none)).run Try.prog V = .ok true V := h
  simp [binOp, Op.equal, h', Result.andThen]

set_option maxHeartbeats 1000000 in
theorem copiesOf_empty (a : Option Addr) (c : Nat) (w : World) : Calls Try.prog 76 #[.map none, .slice a 0 c] w fun e w' => e = .returned (.tuple #[.slice none 0 0, .bool false]) ∧ Below w.heap.size w w' := by
  go_enter Try.func76, Try.ntmps76
  go_wp2_with fail
  refine bodyPost_ret (v := .tuple #[.slice none 0 0, .bool false]) (by first | (simp [results, Try.results76, go_sem]; done) | (simp [results, Try.results76, go_sem]; rfl)) rfl ⟨rfl, ?_⟩
  exact Below.refl _ _

set_option maxHeartbeats 2000000 in
theorem copiesOf_any (d : Nat) (v : Value) (ts : List (Tm (d + 1))) (w0 w : World) (hr : RdQ (d + 1) w0 v ts) (hw : Below w0.heap.size w0 w) (hne : ts ≠ []) (hm : ts.length ≤ 1073741824) :
    Calls Try.prog 76 #[.map none, v] w fun e w' => ∃ g c, e = .returned (.tuple #[.slice (some ⟨g, 0, none⟩) ts.length c, .bool true]) ∧ w.heap.size ≤ g ∧ ClonedAt w0 w' d ts g c ∧ Below w.heap.size w w' := by
  have HCL0 : Hid (∀ W : World, Below w.heap.size w W → _) := fun W hW => cloneTerms_any d v ts w0 W hr (hw.trans (hW.mono hw.size)) hne hm
  obtain ⟨b, o, c, rfl, hp, hel⟩ := hr.open hne
  have h0 : 0 < ts.length := List.length_pos_iff.2 hne
  obtain ⟨n, hn⟩ : ∃ n, ts.length = n := ⟨_, rfl⟩
  have HCL : Hid (∀ W : World, Below w.heap.size w W → Calls Try.prog 85 #[.slice (some ⟨b, o, none⟩) n c] W fun e w' => ∃ g c, e = .returned (.slice (some ⟨g, 0, none⟩) n c) ∧ W.heap.size ≤ g ∧ ClonedAt w0 w' d ts g c ∧ Below W.heap.size W w') := by rw [← hn]; exact HCL0
  rw [hn] at h0 hm ⊢
  have HSP : Hid (∀ W : World, Calls Try.prog 59 #[.slice (some ⟨b, o, none⟩) n c] W fun e w' => e = .returned (.agg #[.pointer (some ⟨b, o, none⟩), .int .i64 n]) ∧ Below W.heap.size W w') := fun W => spotOf_any b o n c W h0 (by omega)
  have HLK : Hid (∀ W : World, Below w.heap.size w W → (Instr.lookup 124 (.map none) (.agg #[.pointer (some ⟨b, o, none⟩), .int .i64 n]) true).run Try.prog W = .ok (.tuple #[.slice none 0 0, .bool false]) W) := fun W hW => lookNil W _ _ ((hp.later hw).later hW)
  have hq := neqMapNil
  clear hr hel hne hn hp HCL0 hw
  go_enter Try.func76, Try.ntmps76
  go_wp2_with fail
  refine (HSP.out _).mono ?_
  rintro e w1 ⟨rfl, hb1⟩
  have hl := HLK.out w1 hb1
  go_wp2_with fail
  clear hl
  refine (HCL.out w1 hb1).mono ?_
  rintro e w2 ⟨g, c', rfl, hg, hcl, hb2⟩
  have HX : Hid (w.heap.size ≤ g ∧ ClonedAt w0 w2 d ts g c' ∧ Below w.heap.size w w2) := ⟨Nat.le_trans hb1.size hg, hcl, hb1.trans (hb2.mono hb1.size)⟩
  clear hcl hb2 hb1
  go_wp2_with fail
  refine bodyPost_ret (v := .tuple #[.slice (some ⟨g, 0, none⟩) n c', .bool true]) (by first | (simp [results, Try.results76, go_sem]; done) | (simp [results, Try.results76, go_sem]; rfl)) rfl ⟨g, c', rfl, HX.out.1, HX.out.2.1, HX.out.2.2⟩

theorem Try.textRoomI64 : Try.prog.underlying 125 = some (.int .i64) := Try.underlying125

set_option maxHeartbeats 1000000 in
theorem textOwn_any (X : Nat) (x : Int) (s : ByteArray) (w : World) (hX : w.heap[X]? = some (.cells #[.int .i64 x] 125 (0, 0))) (h0 : 0 ≤ x) (h1 : x ≤ 33554432) :
    Calls Try.prog 77 #[.pointer (some ⟨X, 0, none⟩), .string s] w fun e w' => e = .returned (.string s) ∧ w.grownBy w' (some X) ∧ ∃ x', w'.heap[X]? = some (.cells #[.int .i64 x'] 125 (0, 0)) ∧ 0 ≤ x' ∧ x' ≤ 33554432 := by
  have c0 : w.cell? ⟨X, 0, none⟩ = some (.int .i64 x) := by rw [cell_of_row w _ 0 _ _ _ hX]; rfl
  have z0 : w.frozen? ⟨X, 0, none⟩ = false := frozen_of_row w _ _ _ _ hX
  have HX : Hid _ := hX
  clear hX
  by_cases ha : (s.size : Int) ≤ 20
  · have hC := cloneS_any s w (by omega)
    go_enter Try.func77, Try.ntmps77
    go_wp2_with fail
    refine hC.mono ?_
    clear hC
    rintro e w1 ⟨rfl, hb⟩
    have HE : Hid (w.grownBy w1 (some X) ∧ w1.heap[X]? = some (.cells #[.int .i64 x] 125 (0, 0))) :=
      ⟨⟨hb.os, hb.tape, hb.output, hb.size, fun k hk _ => hb.block k hk⟩, (hb.block X (lt_row HX.out)).trans HX.out⟩
    clear hb
    go_wp2_with fail
    go_ret
    exact ⟨rfl, HE.out.1, x, HE.out.2, h0, h1⟩
  by_cases hlt : x < (s.size : Int)
  · go_enter Try.func77, Try.ntmps77
    go_wp2_with fail
    go_ret
    exact ⟨rfl, ⟨rfl, rfl, rfl, Nat.le_refl _, fun _ _ _ => rfl⟩, x, HX.out, h0, h1⟩
  · obtain ⟨V, hV⟩ : ∃ V, V = w.setCell ⟨X, 0, none⟩ (.int .i64 (x - s.size)) := ⟨_, rfl⟩
    have hVX : V.heap[X]? = some (.cells #[.int .i64 (x - s.size)] 125 (0, 0)) := by rw [hV]; exact heap_setCell_same w X 0 _ _ _ HX.out
    have hVo : ∀ j, j ≠ X → V.heap[j]? = w.heap[j]? := fun j hj => by rw [hV]; exact heap_setCell_other _ _ _ _ (by simpa using hj)
    have hVs : V.heap.size = w.heap.size := by rw [hV]; simp
    have hC := cloneS_any s V (by omega)
    rw [hV] at hC
    have HV : Hid (V = _) := hV
    have hVg : V.os = w.os ∧ V.tape = w.tape ∧ V.output = w.output := by rw [hV]; exact ⟨rfl, rfl, rfl⟩
    clear hV
    go_enter Try.func77, Try.ntmps77
    go_wp2_with fail
    refine hC.mono ?_
    clear hC
    rintro e w1 ⟨rfl, hb⟩
    rw [← HV.out] at hb
    have HE : Hid (w.grownBy w1 (some X) ∧ w1.heap[X]? = some (.cells #[.int .i64 (x - s.size)] 125 (0, 0))) :=
      ⟨⟨hb.os.trans hVg.1, hb.tape.trans hVg.2.1, hb.output.trans hVg.2.2, by have := hb.size; omega, fun k hk hne => (hb.block k (by omega)).trans (hVo k fun e => hne (by rw [e]))⟩, (hb.block X (lt_row hVX)).trans hVX⟩
    clear hb
    go_wp2_with fail
    go_ret
    exact ⟨rfl, HE.out.1, _, HE.out.2, by omega, by omega⟩

end Go.Proofs.Ytjdhkhpdhblhbaa

/- What the copy of a list of terms keeps in memory while it is under way. -/
namespace Go.Proofs.Ytjdhkhpdhblhbaa
open Go.RowKit
set_option linter.unusedVariables false

def IsT (w : World) (g : Nat) : Prop := ∃ cur, w.heap[g]? = some (.cells cur 29 (0, 0))

/-- A list that waits, as it lies. -/
def HalfP (w0 w : World) (p : Pnd) : Prop := p.us ≠ [] ∧ ∃ cur, w.heap[p.g]? = some (.cells cur 29 (0, 0)) ∧ ∀ (i : Nat) (t : Tm (p.d + 1)), p.us[i]? = some t → ∃ lv, CellsAt cur i t lv ∧ RdQ p.d w0 lv t.L

theorem HalfP.isT {w0 w : World} {p : Pnd} (h : HalfP w0 w p) : IsT w p.g := by obtain ⟨_, cur, h1, _⟩ := h; exact ⟨cur, h1⟩
theorem HalfP.kept {w0 w w' : World} {p : Pnd} (h : HalfP w0 w p) (hk : w'.heap[p.g]? = w.heap[p.g]?) : HalfP w0 w' p := by
  obtain ⟨h0, cur, h1, h2⟩ := h
  exact ⟨h0, cur, hk.trans h1, h2⟩
theorem IsT.lt {w : World} {g : Nat} (h : IsT w g) : g < w.heap.size := by obtain ⟨_, h⟩ := h; exact lt_row h
theorem IsT.kept {w w' : World} {g : Nat} (h : IsT w g) (hk : w'.heap[g]? = w.heap[g]?) : IsT w' g := by obtain ⟨c, h⟩ := h; exact ⟨c, hk.trans h⟩

/-- The room for texts. -/
def Room (w : World) (X : Nat) : Prop := ∃ x : Int, w.heap[X]? = some (.cells #[.int .i64 x] 125 (0, 0)) ∧ 0 ≤ x ∧ x ≤ 33554432
theorem Room.lt {w : World} {X : Nat} (h : Room w X) : X < w.heap.size := by obtain ⟨_, h, _⟩ := h; exact lt_row h
theorem Room.kept {w w' : World} {X : Nat} (h : Room w X) (hk : w'.heap[X]? = w.heap[X]?) : Room w' X := by obtain ⟨x, h1, h2⟩ := h; exact ⟨x, hk.trans h1, h2⟩
theorem Room.ne {w : World} {X g : Nat} (h : Room w X) (hg : IsT w g) : g ≠ X := by
  rintro rfl
  obtain ⟨x, h1, _⟩ := h
  obtain ⟨c, h2⟩ := hg
  rw [h1] at h2
  simp at h2

/-- What is kept: what waits (todo), the blocks A that are the copy's own. -/
structure OPhys (w0 wr : World) (X : Nat) (todo : Value) (ps : List Pnd) (A : List Nat) : Prop where
  row : wr.ownsRow w0.heap.size 27 1 todo ps.length (ps.map Pnd.v)
  half : ∀ p ∈ ps, HalfP w0 wr p
  nd : (A ++ ps.map Pnd.g).Nodup
  hi : ∀ g ∈ A, w0.heap.size ≤ g ∧ IsT wr g
  hp : ∀ p ∈ ps, w0.heap.size ≤ p.g
  tx : Room wr X
  xlo : w0.heap.size ≤ X
  bel : Below w0.heap.size w0 wr

theorem todo_kind {w : World} {B n : Nat} {v : Value} {xs : List Value} (h : w.ownsRow B 27 1 v n xs) : ∀ g, v.ownBlock = some g → g < w.heap.size ∧ (¬ IsT w g) ∧ ∀ X, Room w X → g ≠ X := by
  intro g hg
  rcases h.2 with ⟨rfl, _⟩ | ⟨g', c, cur, rfl, _, h3, _⟩
  · simp [Value.ownBlock] at hg
  · simp only [Value.ownBlock, Option.some.injEq] at hg
    subst hg
    refine ⟨lt_row h3, ?_, ?_⟩
    · rintro ⟨c2, h4⟩; rw [h3] at h4; simp at h4
    · rintro X ⟨x, h4, _⟩ rfl; rw [h3] at h4; simp at h4

theorem OPhys.kept {w0 wr w' : World} {X : Nat} {todo : Value} {ps : List Pnd} {A : List Nat} (h : OPhys w0 wr X todo ps A) (hb : Below w0.heap.size w0 w') (hT : ∀ g, todo.ownBlock = some g → w'.heap[g]? = wr.heap[g]?) (hP : ∀ p ∈ ps, w'.heap[p.g]? = wr.heap[p.g]?) (hA : ∀ g ∈ A, IsT w' g) (hX : Room w' X) : OPhys w0 w' X todo ps A :=
  ⟨rowKept h.row hT, fun p hp => (h.half p hp).kept (hP p hp), h.nd, fun g hg => ⟨(h.hi g hg).1, hA g hg⟩, h.hp, hX, h.xlo, hb⟩

theorem OPhys.below {w0 wr w' : World} {X : Nat} {todo : Value} {ps : List Pnd} {A : List Nat} (h : OPhys w0 wr X todo ps A) (hb : Below wr.heap.size wr w') : OPhys w0 w' X todo ps A :=
  h.kept (h.bel.trans (hb.mono h.bel.size)) (fun g hg => hb.block g (todo_kind h.row g hg).1) (fun p hp => hb.block _ (h.half p hp).isT.lt) (fun g hg => (h.hi g hg).2.kept (hb.block _ (h.hi g hg).2.lt)) (h.tx.kept (hb.block _ h.tx.lt))

theorem OPhys.pop {w0 wr : World} {X : Nat} {todo : Value} {rest : List Pnd} {p : Pnd} {A : List Nat} (h : OPhys w0 wr X todo (rest ++ [p]) A) :
    ∃ g cap, todo = .slice (some ⟨g, 0, none⟩) (rest.length + 1) cap ∧ wr.cell? ⟨g, rest.length, none⟩ = some p.v ∧ rest.length + 1 ≤ cap ∧ OPhys w0 wr X (.slice (some ⟨g, 0, none⟩) rest.length cap) rest (A ++ [p.g]) := by
  have hr := h.row
  have hl : (rest ++ [p]).length = rest.length + 1 := by simp
  rw [hl] at hr
  rcases hr.2 with ⟨_, h2⟩ | ⟨g, cap, cur, h1, h2, h3, h4, h5, h6, h7⟩
  · omega
  · have hm : (rest ++ [p]).map Pnd.v = rest.map Pnd.v ++ [p.v] := by simp
    rw [hm, Nat.mul_one] at h7
    have hlen : (rest.map Pnd.v).length = rest.length := by simp
    have hat : cur[rest.length]? = some p.v := by
      have : (cur.toList.take (rest.length + 1))[rest.length]? = some p.v := by rw [h7, List.getElem?_append_right (by omega), hlen, Nat.sub_self]; rfl
      rw [List.getElem?_take_of_lt (by omega)] at this
      simpa using this
    have htk : cur.toList.take (rest.length * 1) = rest.map Pnd.v := by
      have := congrArg (List.take rest.length) h7
      rw [List.take_take, Nat.min_eq_left (by omega), List.take_append_of_le_length (by omega), List.take_of_length_le (l := rest.map Pnd.v) (by omega)] at this
      rw [Nat.mul_one]; exact this
    refine ⟨g, cap, h1, by rw [cell_of_row wr _ _ _ _ _ h3]; exact hat, h4, ⟨⟨by simp, .inr ⟨g, cap, cur, rfl, h2, h3, by omega, h5, h6, htk⟩⟩, fun q hq => h.half q (List.mem_append_left _ hq), ?_, ?_, fun q hq => h.hp q (List.mem_append_left _ hq), h.tx, h.xlo, h.bel⟩⟩
    · have := h.nd
      rw [List.map_append, List.map_singleton, ← List.append_assoc] at this
      refine (List.Perm.nodup_iff ?_).1 this
      rw [List.append_assoc, List.append_assoc]
      exact List.Perm.append_left A List.perm_append_comm
    · intro b hb
      rcases List.mem_append.1 hb with hb | hb
      · exact h.hi b hb
      · obtain rfl : b = p.g := by simpa using hb
        exact ⟨h.hp p (by simp), (h.half p (by simp)).isT⟩

theorem OPhys.apart {w0 wr : World} {X : Nat} {todo : Value} {ps : List Pnd} {A : List Nat} (h : OPhys w0 wr X todo ps A) {g : Nat} (hg : g ∈ A) : ∀ p ∈ ps, p.g ≠ g := by
  intro p hp e
  have := (List.nodup_append.1 h.nd).2.2 g hg p.g (List.mem_map.2 ⟨p, hp, rfl⟩)
  exact this e.symm

theorem OPhys.set {w0 wr : World} {X : Nat} {todo : Value} {ps : List Pnd} {A : List Nat} (h : OPhys w0 wr X todo ps A) {g : Nat} (hg : g ∈ A) (o : Nat) (u : Value) : OPhys w0 (wr.setCell ⟨g, o, none⟩ u) X todo ps A := by
  obtain ⟨hlo, cur, hcur⟩ := h.hi g hg
  have ho : ∀ j, j ≠ g → (wr.setCell ⟨g, o, none⟩ u).heap[j]? = wr.heap[j]? := fun j hj => heap_setCell_other _ _ _ _ (by simpa using hj)
  refine h.kept (h.bel.setCell (p := ⟨g, o, none⟩) hlo u) (fun b hb => ho b fun e => ?_) (fun p hp => ho _ (h.apart hg p hp)) (fun b hb => ?_) (h.tx.kept (ho X fun e => ?_))
  · subst e; exact (todo_kind h.row b hb).2.1 ⟨cur, hcur⟩
  · by_cases e : b = g
    · subst e; exact ⟨_, heap_setCell_same wr b o _ _ _ hcur⟩
    · exact (h.hi b hb).2.kept (ho b e)
  · exact h.tx.ne ⟨cur, hcur⟩ e.symm

theorem OPhys.text {w0 wr w' : World} {X : Nat} {todo : Value} {ps : List Pnd} {A : List Nat} (h : OPhys w0 wr X todo ps A) (hg : wr.grownBy w' (some X)) (hx : Room w' X) : OPhys w0 w' X todo ps A := by
  have ho : ∀ j, j < wr.heap.size → j ≠ X → w'.heap[j]? = wr.heap[j]? := fun j hj hne => hg.block j hj fun e => hne (Option.some.inj e)
  refine h.kept (h.bel.grown hg h.bel.size (fun k hk => by cases hk; exact h.xlo)) (fun b hb => ho b (todo_kind h.row b hb).1 ((todo_kind h.row b hb).2.2 X h.tx)) (fun p hp => ho _ (h.half p hp).isT.lt (h.tx.ne (h.half p hp).isT)) (fun b hb => (h.hi b hb).2.kept (ho b (h.hi b hb).2.lt (h.tx.ne (h.hi b hb).2))) hx

/-- One more waits. -/
theorem OPhys.push {w0 wr w1 w2 w3 : World} {X : Nat} {todo todo' : Value} {ps : List Pnd} {A : List Nat} (h : OPhys w0 wr X todo ps A) (p : Pnd) (hne : p.us ≠ []) (hg : wr.heap.size ≤ p.g) (hb1 : Below wr.heap.size wr w1) (hcl : ClonedAt w0 w1 p.d p.us p.g p.c) (hb2 : Below w1.heap.size w1 w2)
    (hown : w3.ownsRow w0.heap.size 27 1 todo' (ps.length + 1) (ps.map Pnd.v ++ [p.v])) (hgr : w2.grownBy w3 todo.ownBlock) : OPhys w0 w3 X todo' (ps ++ [p]) A ∧ ∀ j, IsT wr j → w3.heap[j]? = wr.heap[j]? := by
  have hb : Below wr.heap.size wr w2 := hb1.trans (hb2.mono hb1.size)
  have h2 := h.below hb
  have hsame : ∀ j, IsT wr j → w3.heap[j]? = wr.heap[j]? := fun j hj => by
    have e := hb.block j hj.lt
    refine (hgr.block j (Nat.lt_of_lt_of_le hj.lt hb.size) fun e2 => ?_).trans e
    exact (todo_kind h.row j e2.symm).2.1 hj
  obtain ⟨cur, k1, k2, k3, k4⟩ := hcl
  have k1' : w2.heap[p.g]? = some (.cells cur 29 (0, 0)) := (hb2.block _ (lt_row k1)).trans k1
  have k3' : w3.heap[p.g]? = some (.cells cur 29 (0, 0)) := (hgr.block _ (lt_row k1') fun e2 => (todo_kind h2.row _ e2.symm).2.1 ⟨cur, k1'⟩).trans k1'
  have hbel : Below w0.heap.size w0 w3 := h2.bel.grown hgr h2.bel.size (fun k hk => by
    rcases h.row.2 with ⟨rfl, _⟩ | ⟨g', c, cur', rfl, h8, _⟩
    · simp [Value.ownBlock] at hk
    · simp only [Value.ownBlock, Option.some.injEq] at hk; omega)
  refine ⟨⟨by simpa using hown, fun q hq => ?_, ?_, fun g hgA => ⟨(h.hi g hgA).1, (h.hi g hgA).2.kept (hsame g (h.hi g hgA).2)⟩, fun q hq => ?_, ?_, h.xlo, hbel⟩, hsame⟩
  · rcases List.mem_append.1 hq with hq | hq
    · exact (h.half q hq).kept (hsame _ (h.half q hq).isT)
    · obtain rfl : q = p := by simpa using hq
      exact ⟨hne, cur, k3', k4⟩
  · rw [List.map_append, ← List.append_assoc, List.nodup_append]
    refine ⟨h.nd, by simp, fun a ha b hb e => ?_⟩
    obtain rfl : b = p.g := by simpa using hb
    have : a < wr.heap.size := by
      rcases List.mem_append.1 ha with ha | ha
      · exact (h.hi a ha).2.lt
      · obtain ⟨q, hq, rfl⟩ := List.mem_map.1 ha
        exact (h.half q hq).isT.lt
    omega
  · rcases List.mem_append.1 hq with hq | hq
    · exact h.hp q hq
    · obtain rfl : q = p := by simpa using hq
      have := h.bel.size; omega
  · have := h.tx
    refine this.kept ((hgr.block X (Nat.lt_of_lt_of_le this.lt hb.size) fun e2 => ?_).trans (hb.block X this.lt))
    exact (todo_kind h.row X e2.symm).2.2 X this rfl

/-- Where the copy stands within a list: k of its terms are copied. -/
structure IInv (w0 wr : World) (X : Nat) (root : Pnd) (S : List Nat) (rest : List Pnd) (p : Pnd) (k : Nat) (todo : Value) (cs : List Pnd) (cur : Array Value) : Prop where
  ph : OPhys w0 wr X todo (rest ++ cs) (S ++ [p.g])
  fut : Fut (root.d + 1) root.v root.us wr S (rest ++ [p])
  row : wr.heap[p.g]? = some (.cells cur 29 (0, 0))
  rf : RowFut p.d p.us k cur cs
  left : ∀ (i : Nat) (t : Tm (p.d + 1)), k ≤ i → p.us[i]? = some t → ∃ lv, CellsAt cur i t lv ∧ RdQ p.d w0 lv t.L
  work : wk cs + k = cntP p.d p.us k

theorem IInv.notS {w0 wr : World} {X : Nat} {root : Pnd} {S : List Nat} {rest : List Pnd} {p : Pnd} {k : Nat} {todo : Value} {cs : List Pnd} {cur : Array Value} (h : IInv w0 wr X root S rest p k todo cs cur) : ∀ b ∈ S, b ≠ p.g := by
  intro b hb e
  have h1 := (List.nodup_append.1 h.ph.nd).1
  exact (List.nodup_append.1 h1).2.2 b hb p.g (by simp) e

theorem IInv.start {w0 wr : World} {X : Nat} {root : Pnd} {S : List Nat} {rest : List Pnd} {p : Pnd} {todo : Value} (h : OPhys w0 wr X todo rest (S ++ [p.g])) (hf : Fut (root.d + 1) root.v root.us wr S (rest ++ [p])) (hp : HalfP w0 wr p) : ∃ cur, IInv w0 wr X root S rest p 0 todo [] cur := by
  obtain ⟨_, cur, h1, h2⟩ := hp
  exact ⟨cur, ⟨by simpa using h, hf, h1, RowFut.zero _ _ _, fun i t _ ht => h2 i t ht, by simp [wk, cntP]⟩⟩

theorem IInv.step {w0 wr w3 w4 : World} {X : Nat} {root : Pnd} {S : List Nat} {rest : List Pnd} {p : Pnd} {k : Nat} {todo todo' : Value} {cs cs' : List Pnd} {cur : Array Value} {t : Tm (p.d + 1)} {parts : Value} (h : IInv w0 wr X root S rest p k todo cs cur) (ht : p.us[k]? = some t)
    (hph : OPhys w0 w3 X todo' (rest ++ cs') (S ++ [p.g])) (hsame : ∀ j, IsT wr j → w3.heap[j]? = wr.heap[j]?) (hg4 : w3.grownBy w4 (some X)) (hx4 : Room w4 X)
    (hrf : ∀ cur' : Array Value, (∀ j, j < k * 4 → cur'[j]? = cur[j]?) → CellsAt cur' k t parts → RowFut p.d p.us (k + 1) cur' cs') (hwk : wk cs' = wk cs + cntL p.d t.L) :
    ∃ cur', IInv w0 ((w4.setCell ⟨p.g, k * 4 + 3, none⟩ parts).setCell ⟨p.g, k * 4 + 2, none⟩ (.string t.S)) X root S rest p (k + 1) todo' cs' cur' := by
  have hpA : p.g ∈ S ++ [p.g] := by simp
  have hph1 := hph.text hg4 hx4
  have hph2 := hph1.set hpA (k * 4 + 3) parts
  have hph3 := hph2.set hpA (k * 4 + 2) (.string t.S)
  have hrow3 : w3.heap[p.g]? = some (.cells cur 29 (0, 0)) := (hsame p.g ⟨cur, h.row⟩).trans h.row
  have hA1 : w4.heap[p.g]? = some (.cells cur 29 (0, 0)) := (hg4.block p.g (lt_row hrow3) fun e => (hph.tx.ne ⟨_, hrow3⟩) (Option.some.inj e)).trans hrow3
  have hA2 := heap_setCell_same w4 p.g (k * 4 + 3) _ _ parts hA1
  have hA3 := heap_setCell_same _ p.g (k * 4 + 2) _ _ (.string t.S) hA2
  obtain ⟨lv, hc, hrd⟩ := h.left k t (Nat.le_refl _) ht
  have hsz : k * 4 + 3 < cur.size := (Array.getElem?_eq_some_iff.1 hc.2.2.2).1
  have hother : ∀ j, j ≠ k * 4 + 3 → j ≠ k * 4 + 2 → ((cur.setIfInBounds (k * 4 + 3) parts).setIfInBounds (k * 4 + 2) (.string t.S))[j]? = cur[j]? := fun j h1 h2 => by
    rw [Array.getElem?_setIfInBounds_ne (by omega), Array.getElem?_setIfInBounds_ne (by omega)]
  have hcells : CellsAt ((cur.setIfInBounds (k * 4 + 3) parts).setIfInBounds (k * 4 + 2) (.string t.S)) k t parts := by
    refine ⟨by rw [hother _ (by omega) (by omega)]; exact hc.1, by rw [hother _ (by omega) (by omega)]; exact hc.2.1, ?_, ?_⟩
    · rw [Array.getElem?_setIfInBounds_self, if_pos (by simp; omega)]
    · rw [Array.getElem?_setIfInBounds_ne (by omega), Array.getElem?_setIfInBounds_self, if_pos (by omega)]
  refine ⟨_, hph3, h.fut.keep fun b hb => ?_, hA3, hrf _ (fun j hj => hother j (by omega) (by omega)) hcells, fun i u hi hu => ?_, ?_⟩
  · have hne := h.notS b hb
    have hbA : b ∈ S ++ [p.g] := List.mem_append_left _ hb
    have hT3 := (hph.hi b hbA).2
    have hT1 := (h.ph.hi b hbA).2
    rw [heap_setCell_other _ _ _ _ (by simpa using hne), heap_setCell_other _ _ _ _ (by simpa using hne), hg4.block b hT3.lt (fun e => (hph.tx.ne hT3) (Option.some.inj e)), hsame b hT1]
  · obtain ⟨lv', hc', hr'⟩ := h.left i u (by omega) hu
    exact ⟨lv', ⟨by rw [hother _ (by omega) (by omega)]; exact hc'.1, by rw [hother _ (by omega) (by omega)]; exact hc'.2.1, by rw [hother _ (by omega) (by omega)]; exact hc'.2.2.1, by rw [hother _ (by omega) (by omega)]; exact hc'.2.2.2⟩, hr'⟩
  · have := h.work
    rw [cntP_succ p.d p.us k t ht, hwk]
    omega

/-- A list is done: its parts wait in its place. -/
theorem IInv.done {w0 wr : World} {X : Nat} {root : Pnd} {S : List Nat} {rest : List Pnd} {p : Pnd} {todo : Value} {cs : List Pnd} {cur : Array Value} (h : IInv w0 wr X root S rest p p.us.length todo cs cur) : OPhys w0 wr X todo (rest ++ cs) (S ++ [p.g]) ∧ Fut (root.d + 1) root.v root.us wr (S ++ [p.g]) (rest ++ cs) ∧ wk (rest ++ cs) + p.us.length = wk (rest ++ [p]) := by
  refine ⟨h.ph, h.fut.row h.row (fun _ _ => rfl) h.rf, ?_⟩
  have h1 := h.work
  rw [cntP_all p.d p.us _ (Nat.le_refl _)] at h1
  rw [wk_append, wk_append, wk_one]
  omega

end Go.Proofs.Ytjdhkhpdhblhbaa
