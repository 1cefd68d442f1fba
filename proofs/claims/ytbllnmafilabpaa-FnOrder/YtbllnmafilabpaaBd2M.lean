/- A bent term: the walk. -/
import Derived.Test.YtbllnmafilabpaaBdM
import Derived.Test.YtbllnmafilabpaaDrGtM
import Derived.Test.YtbllnmafilabpaaLookM
namespace Go.Proofs.Ytbllnmafilabpaa
open Go.RowKit
set_option linter.unusedVariables false

set_option maxHeartbeats 400000 in
theorem l1OnceT_any (p len cap : Nat) (a : Option Addr) (zs : List Int) (n : Int) (w : World) (hc : Cur w p a len cap) (hr : IsRow .u8 w a len cap zs) (hne : ∀ x, a = some x → 0 < cap → x.block ≠ p) (hm : len ≤ 4611686018427387904) (hn : 0 < n) (hn' : n ≤ 4611686018427387904) :
    Calls Try.prog 26 #[.pointer (some ⟨p, 0, none⟩), .int .i64 n] w fun e w' => ∃ b : Bool, e = .returned (.bool b) ∧ Cur w' p a len cap ∧ w.grownBy w' (some p) := by
  have HB := l1Below_any p len cap a zs n w hc hr hne hm hn hn'
  clear hc hr hne
  go_enter Try.func26, Try.ntmps26
  go_wp2_with fail
  refine HB.mono ?_
  clear HB
  rintro e w1 ⟨y, hy0, hy1, rfl, hc1, hg1⟩
  go_wp2
  go_ret
  exact ⟨_, rfl, hc1, hg1⟩

/-- What a bend of a term hands on. -/
def BPost (p : Nat) (a : Option Addr) (len cap : Nat) (w w' : World) (k n : Int) (s : ByteArray) (v : Value) : Prop := AnyT w' w.heap.size k n s v 200 ∧ Cur w' p a len cap ∧ w.grownBy w' (some p)

/-- How a bend stands: the term's own block, the answer's, the drawer's, and what was there. -/
structure BMid (p : Nat) (a : Option Addr) (len cap : Nat) (w wr : World) (k n : Int) (s : ByteArray) (v : Value) (b : Nat) : Prop where
  box : wr.heap[w.heap.size]? = some (.cells #[.int .i64 k, .int .i64 n, .string s, v] 26 (0, 0))
  res : wr.heap[w.heap.size + 1]? = some (.cells #[.int .i64 0, .int .i64 0, .string ⟨#[]⟩, .slice none 0 0] 26 (0, 0))
  any : AnyT wr (w.heap.size + 1 + 1) k n s v b
  cur : Cur wr p a len cap
  grw : w.grownBy wr (some p)

theorem BMid.later {p len cap b : Nat} {a : Option Addr} {w wr V : World} {k n : Int} {s : ByteArray} {v : Value} (h : BMid p a len cap w wr k n s v b) (hp : p < w.heap.size) (hg : wr.grownBy V (some p)) (hc : Cur V p a len cap) : BMid p a len cap w V k n s v b := by
  have z := lt_of_row' h.res
  exact ⟨(hg.block _ (by omega) (by simp; omega)).trans h.box, (hg.block _ z (by simp; omega)).trans h.res, h.any.frame (fun g h1 h2 => hg.block g h2 (by simp; omega)) hg.size, hc, grownBy_trans h.grw hg⟩

/-- The term's own block turns. -/
theorem BMid.turn {p len cap b b' : Nat} {a : Option Addr} {w wr V : World} {k n k' n' : Int} {s s' : ByteArray} {v v' : Value} (h : BMid p a len cap w wr k n s v b) (hp : p < w.heap.size) (hT : Turned w.heap.size wr V) (hbx : V.heap[w.heap.size]? = some (.cells #[.int .i64 k', .int .i64 n', .string s', v'] 26 (0, 0))) (ha : AnyT V (w.heap.size + 1 + 1) k' n' s' v' b') :
    BMid p a len cap w V k' n' s' v' b' := by
  have z := lt_of_row' h.res
  exact ⟨hbx, (hT.block _ z (by omega)).trans h.res, ha, h.cur.same (hT.block p h.cur.lt (by omega)), ⟨hT.os.trans h.grw.os, hT.tape.trans h.grw.tape, hT.output.trans h.grw.output, Nat.le_trans h.grw.size hT.size, fun g hg hn => (hT.block g (Nat.lt_of_lt_of_le hg h.grw.size) (by omega)).trans (h.grw.block g hg hn)⟩⟩

/-- .. by a store into one of its fields. -/
theorem BMid.set {p len cap b j : Nat} {a : Option Addr} {w wr : World} {k n k' n' : Int} {s s' : ByteArray} {v u : Value} (h : BMid p a len cap w wr k n s v b) (hp : p < w.heap.size) (hbx : (#[.int .i64 k, .int .i64 n, .string s, v] : Array Value).setIfInBounds j u = #[.int .i64 k', .int .i64 n', .string s', v]) (hk : I64 k') (hn : I64 n') (hs : s'.size ≤ 100) :
    BMid p a len cap w (wr.setCell ⟨w.heap.size, j, none⟩ u) k' n' s' v b :=
  h.turn hp (Turned.of_set _ _ _ _) (by rw [heap_setCell_same wr _ j _ _ _ h.box, hbx]) ((h.any.turn hk hn hs).frame (fun g h1 h2 => heap_setCell_other _ _ _ _ (by show g ≠ w.heap.size; omega)) (by simp))

/-- The answer is laid. -/
theorem BMid.fin {p len cap b : Nat} {a : Option Addr} {w wr Z : World} {k n : Int} {s : ByteArray} {v : Value} (h : BMid p a len cap w wr k n s v b) (hp : p < w.heap.size) (hb : b ≤ 200) (hT : Turned (w.heap.size + 1) wr Z) : BPost p a len cap w Z k n s v := by
  exact ⟨((h.any.frame (fun g h1 h2 => hT.block g h2 (by omega)) hT.size).low (by omega)).up hb, h.cur.same (hT.block p h.cur.lt (by omega)), ⟨hT.os.trans h.grw.os, hT.tape.trans h.grw.tape, hT.output.trans h.grw.output, Nat.le_trans h.grw.size hT.size, fun g hg hn => (hT.block g (Nat.lt_of_lt_of_le hg h.grw.size) (by omega)).trans (h.grw.block g hg hn)⟩⟩

theorem four_cells {w : World} {g : Nat} {x0 x1 x2 x3 : Value} {t : TypeId} (h : w.heap[g]? = some (.cells #[x0, x1, x2, x3] t (0, 0))) : w.cell? ⟨g, 0, none⟩ = some x0 ∧ w.cell? ⟨g, 1, none⟩ = some x1 ∧ w.cell? ⟨g, 2, none⟩ = some x2 ∧ w.cell? ⟨g, 3, none⟩ = some x3 ∧ w.frozen? ⟨g, 0, none⟩ = false ∧ w.frozen? ⟨g, 1, none⟩ = false ∧ w.frozen? ⟨g, 2, none⟩ = false ∧ w.frozen? ⟨g, 3, none⟩ = false :=
  ⟨by rw [cell_of_row w _ 0 _ _ _ h]; rfl, by rw [cell_of_row w _ 1 _ _ _ h]; rfl, by rw [cell_of_row w _ 2 _ _ _ h]; rfl, by rw [cell_of_row w _ 3 _ _ _ h]; rfl, frozen_of_row w _ _ _ _ h, frozen_of_row w _ _ _ _ h, frozen_of_row w _ _ _ _ h, frozen_of_row w _ _ _ _ h⟩

def bdN : List Int := [-1, 1000000000001, 1000001, 3]
def bdS : List ByteArray := [⟨#[]⟩, ⟨#[65]⟩, ⟨#[120]⟩, ⟨#[116, 119, 101, 110, 116, 121, 111, 110, 101, 98, 121, 116, 101, 115, 116, 119, 101, 110, 116, 121, 111]⟩]
theorem bdS_ok : ∀ x ∈ bdS, x.size ≤ 100 := by
  unfold bdS; simp only [List.forall_mem_cons, List.not_mem_nil, false_implies, implies_true, and_true]; decide

/-- A leaf more in a list of the call's own. -/
theorem any_snoc {B lo : Nat} {w V w' : World} {v v' : Value} {ts : List (Tm 3)} {fp : List Nat} {cs : List Value} {k n : Int} {s : ByteArray} (hM : Made 3 B w v ts fp) (hrow : w.ownsRow B 26 4 v ts.length cs) (hV : Below w.heap.size w V) (hl : ts.length ≤ 100) (hc : cntL 3 ts ≤ 64) (hlo : lo ≤ B) (hBz : B ≤ w.heap.size) (hk : I64 k) (hn : I64 n) (hs : s.size ≤ 100)
    (hown : w'.ownsRow B 26 4 v' (ts.length + 1) (cs ++ [.int .i64 1, .int .i64 4, .string ⟨#[]⟩, .slice none 0 0])) (hgr : V.grownBy w' v.ownBlock) (hat : v'.ownBlock = v.ownBlock ∨ v'.ownBlock = some V.heap.size) : AnyT w' lo k n s v' 65 := by
  obtain ⟨cs', fps, r1, r2, r3, r4, r5, r6⟩ := hM
  obtain rfl := row_cs r1 hrow
  subst r3
  have hkp : ∀ g ∈ v.ownBlock.toList ++ fps.flatten, V.heap[g]? = w.heap[g]? := fun g hg => hV.block g (r4.2 g hg).2
  obtain ⟨fp', hm, _⟩ := made_step (w := V) (t := mkT 1 4 ⟨#[]⟩ []) (f := []) (lv := .slice none 0 0) (rowKept r1 fun g hg => hkp g (List.mem_append_left _ (by rw [hg]; exact List.mem_singleton.2 rfl))) r2 ⟨r4.1, fun g hg => ⟨(r4.2 g hg).1, Nat.lt_of_lt_of_le (r4.2 g hg).2 hV.size⟩⟩ r5 (r6.frame fun g hg => hkp g (List.mem_append_right _ hg))
    (ownL_nil 2 V) ⟨List.nodup_nil, fun g hg => by cases hg⟩ (fun g hg => by cases hg) ⟨⟨by show _ ≤ (1 : Int); omega, by show (1 : Int) ≤ _; omega⟩, ⟨by show _ ≤ (4 : Int); omega, by show (4 : Int) ≤ _; omega⟩, Nat.zero_le _, wfL_nil 2⟩ (by omega) (Nat.le_trans hBz hV.size) hown hgr hat
  obtain ⟨a', l', c', f3, e3, q1, q2, q3⟩ := hm.own
  refine ⟨3, _, f3, q1, fun g hg => ⟨Nat.le_trans hlo (q2.2 g hg).1, (q2.2 g hg).2⟩, q3, hk, hn, hs, ?_⟩
  have : ∀ l : List (Tm 3), cntL 3 (l ++ [mkT 1 4 ⟨#[]⟩ []]) = cntL 3 l + 1 := fun l => by
    show (List.map _ _).sum = (List.map _ _).sum + 1
    rw [List.map_append, List.sum_append]
    rfl
  rw [this]
  omega

set_option maxRecDepth 100000 in
set_option maxHeartbeats 2000000 in
theorem l2Bend_any (p len cap : Nat) (a : Option Addr) (zs : List Int) (t : Tm 4) (l : Value) (w : World) (hc : Cur w p a len cap) (hr : IsRow .u8 w a len cap zs) (hne : ∀ x, a = some x → 0 < cap → x.block ≠ p) (hmx : len ≤ 4611686018427387904) (hrd : RdL 3 w l t.L) (hwf : WfT 4 t) (hsm : SmT 4 t) :
    Calls Try.prog 27 #[.pointer (some ⟨p, 0, none⟩), .agg #[.int .i64 t.K, .int .i64 t.N, .string t.S, l]] w fun e w' => ∃ k n s av lv cv, e = .returned (.agg #[.int .i64 k, .int .i64 n, .string s, .slice av lv cv]) ∧ Hid (BPost p a len cap w w' k n s (.slice av lv cv)) := by
  have hp := hc.lt
  obtain ⟨W1, hW1⟩ : ∃ W, W = (w.alloc (.cells #[.int .i64 t.K, .int .i64 t.N, .string t.S, l] 26)).alloc (.cells #[.int .i64 0, .int .i64 0, .string ⟨#[]⟩, .slice none 0 0] 26) := ⟨_, rfl⟩
  have bA : Below w.heap.size w W1 := by rw [hW1]; exact ((Below.refl _ _).alloc (Nat.le_refl _) _).alloc (by simp) _
  have hC := l2Copy_any 3 t.K t.N t.S l t.L W1 (hrd.later bA) hwf.2.2.2 (sm_few 3 t.L hsm.2.2.2 hsm.2.2.1)
  rw [hW1] at hC
  have HW1 : Hid (W1 = _) := hW1
  clear hW1
  go_enter Try.func27, Try.ntmps27
  go_wp2_with fail
  refine hC.mono ?_
  clear hC
  rintro e w2 ⟨a2, l2, c2, fp, rfl, HM, hb2⟩
  rw [← HW1.out] at HM hb2
  have hz1 : W1.heap.size = w.heap.size + 1 + 1 := by rw [HW1.out]; simp
  have n0 : W1.heap[w.heap.size]? = some (.cells #[.int .i64 t.K, .int .i64 t.N, .string t.S, l] 26 (0, 0)) := by rw [HW1.out]; exact (Below.heap_alloc _ _ _ (by simp)).trans (heap_alloc_new w _)
  have n1 : W1.heap[w.heap.size + 1]? = some (.cells #[.int .i64 0, .int .i64 0, .string ⟨#[]⟩, .slice none 0 0] 26 (0, 0)) := by
    have := heap_alloc_new (w.alloc (.cells #[.int .i64 t.K, .int .i64 t.N, .string t.S, l] 26)) (.cells #[.int .i64 0, .int .i64 0, .string ⟨#[]⟩, .slice none 0 0] 26)
    rw [show (w.alloc (.cells #[.int .i64 t.K, .int .i64 t.N, .string t.S, l] 26)).heap.size = w.heap.size + 1 from by simp, ← HW1.out] at this
    exact this
  have m0 := (hb2.block _ (by omega)).trans n0
  have m1 := (hb2.block _ (by omega)).trans n1
  obtain ⟨X, hX⟩ : ∃ X, X = (((w2.setCell ⟨w.heap.size, 0, none⟩ (.int .i64 t.K)).setCell ⟨w.heap.size, 1, none⟩ (.int .i64 t.N)).setCell ⟨w.heap.size, 2, none⟩ (.string t.S)).setCell ⟨w.heap.size, 3, none⟩ (.slice a2 l2 c2) := ⟨_, rfl⟩
  have hTX : Turned w.heap.size w2 X := by rw [hX]; exact (((Turned.of_set _ _ _ _).trans (Turned.of_set _ _ _ _)).trans (Turned.of_set _ _ _ _)).trans (Turned.of_set _ _ _ _)
  have hXb : X.heap[w.heap.size]? = some (.cells #[.int .i64 t.K, .int .i64 t.N, .string t.S, .slice a2 l2 c2] 26 (0, 0)) := by
    rw [hX]
    exact heap_setCell_same _ _ 3 _ _ _ (heap_setCell_same _ _ 2 _ _ _ (heap_setCell_same _ _ 1 _ _ _ (heap_setCell_same w2 _ 0 _ _ _ m0)))
  have hMX : Made 3 (w.heap.size + 1 + 1) X (.slice a2 l2 c2) t.L fp := by
    have hM := HM.out
    obtain ⟨cs, fps, q1, q2, q3, q4, q5, q6⟩ := hM.frame (w' := X) (fun g hg => by obtain ⟨_, _, _, _, _, h4, _⟩ := hM; exact hTX.block g (h4.2 g hg).2 (by have := (h4.2 g hg).1; omega)) hTX.size
    refine ⟨cs, fps, ⟨q1.1, ?_⟩, q2, q3, ⟨q4.1, fun g hg => ⟨by have := (q4.2 g hg).1; omega, (q4.2 g hg).2⟩⟩, q5, q6⟩
    rcases q1.2 with h | ⟨g, c, cur, e1, e2, e3⟩
    · exact .inl h
    · exact .inr ⟨g, c, cur, e1, by omega, e3⟩
  have hAX : AnyT X (w.heap.size + 1 + 1) t.K t.N t.S (.slice a2 l2 c2) 64 := by
    obtain ⟨a', l', c', f3, e3, q1, q2, q3⟩ := hMX.own
    have hcnt := sm_cnt 3 t.L hsm.2.2.2 hsm.2.2.1
    have h64 : (4 : Nat) ^ 3 = 64 := by decide
    exact ⟨3, t.L, f3, q1, fun g hg => q2.2 g hg, q3, hwf.1, hwf.2.1, by have := hsm.2.1; omega, by omega⟩
  have hgX : w.grownBy X (some p) := ⟨hTX.os.trans (hb2.os.trans bA.os), hTX.tape.trans (hb2.tape.trans bA.tape), hTX.output.trans (hb2.output.trans bA.output), by have := hTX.size; have := hb2.size; omega, fun g hg hn => (hTX.block g (by have := hb2.size; omega) (by omega)).trans ((hb2.block g (by omega)).trans (bA.block g hg))⟩
  have hcX : Cur X p a len cap := hc.same ((hTX.block p (by have := hb2.size; omega) (by omega)).trans ((hb2.block p (by omega)).trans (bA.block p hp)))
  have HX : Hid (BMid p a len cap w X t.K t.N t.S (.slice a2 l2 c2) 64) := ⟨hXb, (hTX.block _ (by have := hb2.size; omega) (by omega)).trans m1, hAX, hcX, hgX⟩
  have HMX : Hid (Made 3 (w.heap.size + 1 + 1) X (.slice a2 l2 c2) t.L fp) := hMX
  have HSM : Hid (SmT 4 t ∧ WfT 4 t) := ⟨hsm, hwf⟩
  have HNE : Hid (∀ x, a = some x → 0 < cap → x.block ≠ p) := hne
  have HR : Hid (IsRow .u8 w a len cap zs) := hr
  have hB6 := l1Below_any p len cap a zs 6 X hcX (hr.grown hgX hne) hne hmx (by omega) (by omega)
  rw [hX] at hB6
  have HXE : Hid (X = _) := hX
  obtain ⟨x0, x1, x2, x3, y0, y1, y2, y3⟩ := four_cells m0
  clear hX hTX hXb hMX hAX hgX hcX m1 n0 n1 m0 HM hb2 HW1 bA hsm hwf hrd hr hne hc
  go_wp2_with fail
  refine hB6.mono ?_
  clear hB6
  rintro e w3 ⟨y, hy0, hy1, rfl, hc3, hg3⟩
  rw [← HXE.out] at hg3
  have H3 : Hid (BMid p a len cap w w3 t.K t.N t.S (.slice a2 l2 c2) 64) := HX.out.later hp hg3 hc3
  have HM3 : Hid (Made 3 (w.heap.size + 1 + 1) w3 (.slice a2 l2 c2) t.L fp) := HMX.out.frame (fun g hg => by obtain ⟨_, _, _, _, _, h4, _⟩ := HMX.out; exact hg3.block g (h4.2 g hg).2 (by have := (h4.2 g hg).1; simp; omega)) hg3.size
  have hr3 := HR.out.grown H3.out.grw HNE.out
  have hz3 := lt_of_row' H3.out.res
  have hp3 := hc3.lt
  clear hg3 HX HMX HXE x0 x1 x2 x3 y0 y1 y2 y3
  obtain ⟨x0, x1, x2, x3, y0, y1, y2, y3⟩ := four_cells H3.out.box
  obtain ⟨r0, r1, r2, r3, v0, v1, v2, v3⟩ := four_cells H3.out.res
  rcases (by omega : y = 0 ∨ y = 1 ∨ y = 2 ∨ y = 3 ∨ y = 4 ∨ y = 5) with rfl | rfl | rfl | rfl | rfl | rfl
  · have hB7 := l1Below_any p len cap a zs 7 w3 hc3 hr3 HNE.out hmx (by omega) (by omega)
    go_wp2_with fail
    refine hB7.mono ?_
    clear hB7
    rintro e w4 ⟨z, hz0, hz7, rfl, hc4, hg4⟩
    have H4 : Hid (BMid p a len cap w w4 t.K t.N t.S (.slice a2 l2 c2) 64) := H3.out.later hp hg4 hc4
    have HF : Hid (∀ Z, Turned (w.heap.size + 1) (w4.setCell ⟨w.heap.size, 0, none⟩ (.int .i64 z)) Z → BPost p a len cap w Z z t.N t.S (.slice a2 l2 c2)) := fun Z hZ => (H4.out.set hp rfl ⟨by omega, by omega⟩ HSM.out.2.2.1 (by have := HSM.out.1.2.1; omega)).fin hp (by omega) hZ
    have hz4 := lt_of_row' H4.out.res
    clear x0 x1 x2 x3 y0 y1 y2 y3 r0 r1 r2 r3 v0 v1 v2 v3
    obtain ⟨x0, x1, x2, x3, y0, y1, y2, y3⟩ := four_cells H4.out.box
    obtain ⟨r0, r1, r2, r3, v0, v1, v2, v3⟩ := four_cells H4.out.res
    clear hc4 hg4 hr3 hc3
    go_wp2_with fail
    refine bodyPost_ret (v := .agg #[.int .i64 z, .int .i64 t.N, .string t.S, .slice a2 l2 c2]) (by first | (simp [results, Try.results27, go_sem, r0, r1, r2, r3]; done) | (simp [results, Try.results27, go_sem, r0, r1, r2, r3]; rfl)) rfl ⟨z, t.N, t.S, _, _, _, rfl, HF.out _ ?_⟩
    repeat (first | exact Turned.refl _ _ | refine Turned.trans ?_ (Turned.of_set _ _ _ _))
  · go_wp2_with fail
    refine (l1Int_any p len cap a zs w3.heap.size 0 4 4 bdN _ (hc3.same (Below.heap_alloc w3 _ _ hp3)) (hr3.grown (World.grownBy_alloc w3 _ (some p)) HNE.out) HNE.out hmx (by omega) rfl (by omega) (by omega) (list_cells w3 bdN _ 3 rfl)).mono ?_
    rintro e w4 ⟨z, hz, rfl, hc4, hg4⟩
    have hzb : I64 z := by
      simp only [bdN, List.mem_cons, List.not_mem_nil, or_false] at hz
      constructor <;> omega
    have H4 : Hid (BMid p a len cap w w4 t.K t.N t.S (.slice a2 l2 c2) 64) := H3.out.later hp (grownBy_trans (World.grownBy_alloc w3 _ (some p)) hg4) hc4
    have HF : Hid (∀ Z, Turned (w.heap.size + 1) (w4.setCell ⟨w.heap.size, 1, none⟩ (.int .i64 z)) Z → BPost p a len cap w Z t.K z t.S (.slice a2 l2 c2)) := fun Z hZ => (H4.out.set hp rfl HSM.out.2.1 hzb (by have := HSM.out.1.2.1; omega)).fin hp (by omega) hZ
    have hz4 := lt_of_row' H4.out.res
    clear x0 x1 x2 x3 y0 y1 y2 y3 r0 r1 r2 r3 v0 v1 v2 v3
    obtain ⟨x0, x1, x2, x3, y0, y1, y2, y3⟩ := four_cells H4.out.box
    obtain ⟨r0, r1, r2, r3, v0, v1, v2, v3⟩ := four_cells H4.out.res
    clear hc4 hg4 hr3 hc3 hz hzb
    go_wp2_with fail
    refine bodyPost_ret (v := .agg #[.int .i64 t.K, .int .i64 z, .string t.S, .slice a2 l2 c2]) (by first | (simp [results, Try.results27, go_sem, r0, r1, r2, r3]; done) | (simp [results, Try.results27, go_sem, r0, r1, r2, r3]; rfl)) rfl ⟨t.K, z, t.S, _, _, _, rfl, HF.out _ ?_⟩
    repeat (first | exact Turned.refl _ _ | refine Turned.trans ?_ (Turned.of_set _ _ _ _))
  · go_wp2_with fail
    refine (l1Str_any p len cap a zs w3.heap.size 0 4 4 bdS _ (hc3.same (Below.heap_alloc w3 _ _ hp3)) (hr3.grown (World.grownBy_alloc w3 _ (some p)) HNE.out) HNE.out hmx (by omega) rfl (by omega) (by omega) (list_cellsS w3 bdS _ _ rfl)).mono ?_
    rintro e w4 ⟨z, hz, rfl, hc4, hg4⟩
    have hzb := bdS_ok z hz
    have H4 : Hid (BMid p a len cap w w4 t.K t.N t.S (.slice a2 l2 c2) 64) := H3.out.later hp (grownBy_trans (World.grownBy_alloc w3 _ (some p)) hg4) hc4
    have HF : Hid (∀ Z, Turned (w.heap.size + 1) (w4.setCell ⟨w.heap.size, 2, none⟩ (.string z)) Z → BPost p a len cap w Z t.K t.N z (.slice a2 l2 c2)) := fun Z hZ => (H4.out.set hp rfl HSM.out.2.1 HSM.out.2.2.1 hzb).fin hp (by omega) hZ
    have hz4 := lt_of_row' H4.out.res
    clear x0 x1 x2 x3 y0 y1 y2 y3 r0 r1 r2 r3 v0 v1 v2 v3
    obtain ⟨x0, x1, x2, x3, y0, y1, y2, y3⟩ := four_cells H4.out.box
    obtain ⟨r0, r1, r2, r3, v0, v1, v2, v3⟩ := four_cells H4.out.res
    clear hc4 hg4 hr3 hc3 hz hzb
    go_wp2_with fail
    refine bodyPost_ret (v := .agg #[.int .i64 t.K, .int .i64 t.N, .string z, .slice a2 l2 c2]) (by first | (simp [results, Try.results27, go_sem, r0, r1, r2, r3]; done) | (simp [results, Try.results27, go_sem, r0, r1, r2, r3]; rfl)) rfl ⟨t.K, t.N, z, _, _, _, rfl, HF.out _ ?_⟩
    repeat (first | exact Turned.refl _ _ | refine Turned.trans ?_ (Turned.of_set _ _ _ _))
  · obtain ⟨cs, hcs⟩ := made_row HM3.out
    have hl3 : t.L.length ≤ 3 := HSM.out.1.2.2.1
    obtain ⟨m, hm⟩ : ∃ m, t.L.length = m := ⟨_, rfl⟩
    have HLM : Hid (t.L.length = m) := hm
    rw [hm] at hcs hl3
    have HCS : Hid (w3.ownsRow (w.heap.size + 1 + 1) 26 4 (.slice a2 l2 c2) m cs) := hcs
    have HAFT : Hid (∀ (w4 : World) (av : Option Addr) (lv cv : Nat), w4.ownsRow (w.heap.size + 1 + 1) 26 4 (.slice av lv cv) (m + 1) (cs ++ [.int .i64 1, .int .i64 4, .string ⟨#[]⟩, .slice none 0 0]) → (w3.alloc (.cells #[.int .i64 1, .int .i64 4, .string ⟨#[]⟩, .slice none 0 0] 26)).grownBy w4 (Value.slice a2 l2 c2).ownBlock →
        ((Value.slice av lv cv).ownBlock = (Value.slice a2 l2 c2).ownBlock ∨ (Value.slice av lv cv).ownBlock = some (w3.alloc (.cells #[.int .i64 1, .int .i64 4, .string ⟨#[]⟩, .slice none 0 0] 26)).heap.size) →
        w4.heap[w.heap.size]? = some (.cells #[.int .i64 t.K, .int .i64 t.N, .string t.S, .slice a2 l2 c2] 26 (0, 0)) ∧ w4.heap[w.heap.size + 1]? = some (.cells #[.int .i64 0, .int .i64 0, .string ⟨#[]⟩, .slice none 0 0] 26 (0, 0)) ∧ Hid (∀ Z, Turned (w.heap.size + 1) (w4.setCell ⟨w.heap.size, 3, none⟩ (.slice av lv cv)) Z → BPost p a len cap w Z t.K t.N t.S (.slice av lv cv))) := fun w4 av lv cv i1 i2 i3 => by
      have hob : ∀ g, (Value.slice a2 l2 c2).ownBlock = some g → w.heap.size + 1 + 1 ≤ g := fun g hg => by
        rcases HCS.out.2 with ⟨e, _⟩ | ⟨g', c', cur, e1, e2, e3, _⟩
        · rw [e] at hg; cases hg
        · rw [e1] at hg
          obtain rfl : g' = g := by simpa [Value.ownBlock] using hg
          exact e2
      have hA : Below w3.heap.size w3 (w3.alloc (.cells #[.int .i64 1, .int .i64 4, .string ⟨#[]⟩, .slice none 0 0] 26)) := (Below.refl _ _).alloc (Nat.le_refl _) _
      have hk : ∀ g, g < w.heap.size + 1 + 1 → w4.heap[g]? = w3.heap[g]? := fun g hg => (i2.block g (by simp; omega) (fun e => by have := hob g e.symm; omega)).trans (hA.block g (by omega))
      have hz4 := i2.size
      have hz4' : w3.heap.size ≤ w4.heap.size := Nat.le_trans hA.size hz4
      have k0 := (hk _ (by omega)).trans H3.out.box
      have k1 := (hk _ (by omega)).trans H3.out.res
      have hany : AnyT w4 (w.heap.size + 1 + 1) t.K t.N t.S (.slice av lv cv) 65 := by
        have hcnt := sm_cnt 3 t.L HSM.out.1.2.2.2 HSM.out.1.2.2.1
        have h64 : (4 : Nat) ^ 3 = 64 := by decide
        have e := HLM.out
        subst e
        exact any_snoc HM3.out HCS.out hA (by omega) (by omega) (Nat.le_refl _) (by omega) HSM.out.2.1 HSM.out.2.2.1 (by have := HSM.out.1.2.1; omega) i1 i2 i3
      have hgr4 : w.grownBy w4 (some p) := ⟨i2.os.trans (hA.os.trans H3.out.grw.os), i2.tape.trans (hA.tape.trans H3.out.grw.tape), i2.output.trans (hA.output.trans H3.out.grw.output), Nat.le_trans H3.out.grw.size hz4', fun g hg hn => (hk g (by omega)).trans (H3.out.grw.block g hg hn)⟩
      refine ⟨k0, k1, fun Z hZ => BMid.fin (b := 65) ⟨?_, ?_, ?_, ?_, ?_⟩ hp (by omega) hZ⟩
      · exact heap_setCell_same w4 _ 3 _ _ _ k0
      · exact (heap_setCell_other _ _ _ _ (by show w.heap.size + 1 ≠ w.heap.size; omega)).trans k1
      · exact hany.frame (fun g h1 h2 => heap_setCell_other _ _ _ _ (by show g ≠ w.heap.size; omega)) (by simp)
      · exact cur_set (H3.out.cur.same (hk p (by omega))) (by omega)
      · exact grown_set hgr4 (Nat.le_refl _)
    obtain ⟨i0, hi, hi0, hi1, hi2⟩ := info_parts Try.infoTerm
    clear hcs hm hr3 hc3
    go_wp2_with (first | (at_builtin; refine wpList_append_own_at _ rfl _ _ 24 rfl (w.heap.size + 1 + 1) 26 i0 (.agg #[.int .i64 0, .int .i64 0, .string ⟨#[]⟩, .slice none 0 0]) 4 56 Try.underlying24 hi hi0 hi1 hi2 rfl (by decide) _ _ _ rfl (HCS.out.alloc _) ⟨w3.heap.size, 0, none⟩ 1 1 [.int .i64 1, .int .i64 4, .string ⟨#[]⟩, .slice none 0 0] rfl rfl (four_new w3 _ _ _ _ _) (by intro u hu; simp at hu; rcases hu with rfl | rfl | rfl | rfl <;> rfl) (by unfold maxLen; omega) (by omega) (by simp; omega) ?_; intro v' w4 hown4 hgrow4 _ hat4; obtain ⟨av4, lv4, cv4, rfl⟩ := row_slice hown4; obtain ⟨k0, k1, HF⟩ := HAFT.out w4 av4 lv4 cv4 hown4 hgrow4 hat4; clear x0 x1 x2 x3 y0 y1 y2 y3 r0 r1 r2 r3 v0 v1 v2 v3 hown4 hgrow4 hat4; obtain ⟨x0, x1, x2, x3, y0, y1, y2, y3⟩ := four_cells k0; obtain ⟨r0, r1, r2, r3, v0, v1, v2, v3⟩ := four_cells k1; clear k0 k1) | go_in)
    refine bodyPost_ret (v := .agg #[.int .i64 t.K, .int .i64 t.N, .string t.S, .slice av4 lv4 cv4]) (by first | (simp [results, Try.results27, go_sem, r0, r1, r2, r3]; done) | (simp [results, Try.results27, go_sem, r0, r1, r2, r3]; rfl)) rfl ⟨t.K, t.N, t.S, _, _, _, rfl, HF.out _ ?_⟩
    repeat (first | exact Turned.refl _ _ | refine Turned.trans ?_ (Turned.of_set _ _ _ _))
  · clear x0 x1 x2 x3 y0 y1 y2 y3 r0 r1 r2 r3 v0 v1 v2 v3 hr3 hc3
    go_wp2_with fail
    go_loopw [5] (fun i wr => ∃ (j : Nat) (k n : Int) (s : ByteArray) (av : Option Addr) (lv cv : Nat), j ≤ 8 ∧ i = .int .i64 j ∧ Hid (BMid p a len cap w wr k n s (.slice av lv cv) (64 + j))) (fun i _ => 8 - (intOf i).toNat)
    case atStart => exact ⟨0, t.K, t.N, t.S, a2, l2, c2, by omega, rfl, H3.out⟩
    case round =>
      obtain ⟨j, k, n, s, av, lv, cv, hj, rfl, HJ⟩ := hrel
      have hzr := lt_of_row' HJ.out.res
      have hzr0 : w.heap.size < wr.heap.size := by omega
      obtain ⟨x0, x1, x2, x3, y0, y1, y2, y3⟩ := four_cells HJ.out.box
      obtain ⟨r0, r1, r2, r3, v0, v1, v2, v3⟩ := four_cells HJ.out.res
      by_cases hlt : j < 8
      · have hlt' : (j : Int) < 8 := by omega
        have HNX : Hid (BMid p a len cap w (((((wr.setCell ⟨w.heap.size, 0, none⟩ (.int .i64 4)).setCell ⟨w.heap.size, 1, none⟩ (.int .i64 0)).setCell ⟨w.heap.size, 2, none⟩ (.string ⟨#[]⟩)).setCell ⟨w.heap.size, 3, none⟩ (.slice (some ⟨wr.heap.size, 0, none⟩) 1 1)).alloc (.cells #[.int .i64 k, .int .i64 n, .string s, .slice av lv cv] 26)) 4 0 ⟨#[]⟩ (.slice (some ⟨wr.heap.size, 0, none⟩) 1 1) (64 + (j + 1))) := by
          obtain ⟨S, hS⟩ : ∃ S, S = (((wr.setCell ⟨w.heap.size, 0, none⟩ (.int .i64 4)).setCell ⟨w.heap.size, 1, none⟩ (.int .i64 0)).setCell ⟨w.heap.size, 2, none⟩ (.string ⟨#[]⟩)).setCell ⟨w.heap.size, 3, none⟩ (.slice (some ⟨wr.heap.size, 0, none⟩) 1 1) := ⟨_, rfl⟩
          have hTS : Turned w.heap.size wr S := by rw [hS]; exact (((Turned.of_set _ _ _ _).trans (Turned.of_set _ _ _ _)).trans (Turned.of_set _ _ _ _)).trans (Turned.of_set _ _ _ _)
          have hSz : S.heap.size = wr.heap.size := by rw [hS]; simp
          have hSb : S.heap[w.heap.size]? = some (.cells #[.int .i64 4, .int .i64 0, .string ⟨#[]⟩, .slice (some ⟨wr.heap.size, 0, none⟩) 1 1] 26 (0, 0)) := by
            rw [hS]
            exact heap_setCell_same _ _ 3 _ _ _ (heap_setCell_same _ _ 2 _ _ _ (heap_setCell_same _ _ 1 _ _ _ (heap_setCell_same wr _ 0 _ _ _ HJ.out.box)))
          have hA := (HJ.out.any.frame (w' := S) (fun g h1 h2 => hTS.block g h2 (by omega)) hTS.size).within (by rw [hSz]; omega)
          rw [hSz] at hA
          rw [← hS]
          have hbl : Below S.heap.size S (S.alloc (.cells #[.int .i64 k, .int .i64 n, .string s, .slice av lv cv] 26)) := (Below.refl _ _).alloc (Nat.le_refl _) _
          have hT : Turned w.heap.size wr (S.alloc (.cells #[.int .i64 k, .int .i64 n, .string s, .slice av lv cv] 26)) := hTS.trans (Turned.of_below hbl)
          exact HJ.out.turn hp hT ((hbl.block _ (by omega)).trans hSb) hA
        go_wp2_with fail
        go_roundw
        case rel => exact ⟨j + 1, 4, 0, ⟨#[]⟩, _, 1, 1, by omega, by go_num, HNX⟩
        case measure => simp [intOf]; omega
      · obtain rfl : j = 8 := by omega
        have HF : Hid (∀ Z, Turned (w.heap.size + 1) wr Z → BPost p a len cap w Z k n s (.slice av lv cv)) := fun Z hZ => HJ.out.fin hp (by omega) hZ
        go_wp2_with fail
        refine bodyPost_ret (v := .agg #[.int .i64 k, .int .i64 n, .string s, .slice av lv cv]) (by first | (simp [results, Try.results27, go_sem, r0, r1, r2, r3]; done) | (simp [results, Try.results27, go_sem, r0, r1, r2, r3]; rfl)) rfl ⟨k, n, s, _, _, _, rfl, HF.out _ ?_⟩
        repeat (first | exact Turned.refl _ _ | refine Turned.trans ?_ (Turned.of_set _ _ _ _))
  · have HF : Hid (∀ Z, Turned (w.heap.size + 1) w3 Z → BPost p a len cap w Z t.K t.N t.S (.slice a2 l2 c2)) := fun Z hZ => H3.out.fin hp (by omega) hZ
    clear hr3 hc3
    go_wp2_with fail
    refine bodyPost_ret (v := .agg #[.int .i64 t.K, .int .i64 t.N, .string t.S, .slice a2 l2 c2]) (by first | (simp [results, Try.results27, go_sem, r0, r1, r2, r3]; done) | (simp [results, Try.results27, go_sem, r0, r1, r2, r3]; rfl)) rfl ⟨t.K, t.N, t.S, _, _, _, rfl, HF.out _ ?_⟩
    repeat (first | exact Turned.refl _ _ | refine Turned.trans ?_ (Turned.of_set _ _ _ _))

end Go.Proofs.Ytbllnmafilabpaa

/- A drawn term, bent or not: the walk. -/
namespace Go.Proofs.Ytbllnmafilabpaa
open Go.RowKit
set_option linter.unusedVariables false

/-- What a draw of any term hands on. -/
def APost (w w' : World) (k n : Int) (s : ByteArray) (v : Value) : Prop := AnyT w' w.heap.size k n s v 200

set_option maxRecDepth 100000 in
set_option maxHeartbeats 2000000 in
theorem l2Any_any (p len cap : Nat) (a : Option Addr) (zs : List Int) (w : World) (hc : Cur w p a len cap) (hr : IsRow .u8 w a len cap zs) (hne : ∀ x, a = some x → 0 < cap → x.block ≠ p) (hmx : len ≤ 4611686018427387904) :
    Calls Try.prog 16 #[.pointer (some ⟨p, 0, none⟩)] w fun e w' => ∃ k n s av lv cv, e = .returned (.agg #[.int .i64 k, .int .i64 n, .string s, .slice av lv cv]) ∧ Hid (BPost p a len cap w w' k n s (.slice av lv cv)) := by
  have hp := hc.lt
  obtain ⟨W1, hW1⟩ : ∃ W, W = w.alloc (.cells #[.int .i64 0, .int .i64 0, .string ⟨#[]⟩, .slice none 0 0] 26) := ⟨_, rfl⟩
  have hz1 : W1.heap.size = w.heap.size + 1 := by rw [hW1]; simp
  have hg1 : w.grownBy W1 (some p) := by rw [hW1]; exact World.grownBy_alloc w _ (some p)
  have n1 : W1.heap[w.heap.size]? = some (.cells #[.int .i64 0, .int .i64 0, .string ⟨#[]⟩, .slice none 0 0] 26 (0, 0)) := by rw [hW1]; exact heap_alloc_new w _
  have hc1 : Cur W1 p a len cap := by rw [hW1]; exact hc.same (Below.heap_alloc w _ p hp)
  have hr1 := hr.grown hg1 hne
  have hD := l2Draw_any 3 (by omega) p len cap a zs W1 hc1 hr1 hne hmx
  rw [show ((3 : Nat) : Int) = 3 from rfl, hW1] at hD
  have HW1 : Hid (W1 = _) := hW1
  have HNE : Hid (∀ x, a = some x → 0 < cap → x.block ≠ p) := hne
  clear hW1 hne hc1
  go_enter Try.func16, Try.ntmps16
  go_wp2_with fail
  refine hD.mono ?_
  clear hD
  rintro e w2 ⟨k, x, s, av, l, cv, rfl, HP⟩
  rw [← HW1.out] at HP
  obtain ⟨hc2, hg2, t, fp, hown, hfr, hwf, hsm⟩ := HP.out
  obtain ⟨a', l', c', ev, hown⟩ := hown
  simp only [Value.agg.injEq] at ev
  have ev2 : ([.int .i64 k, .int .i64 x, .string s, .slice av l cv] : List Value) = [.int .i64 t.K, .int .i64 t.N, .string t.S, .slice a' l' c'] := by simpa using congrArg Array.toList ev
  simp only [List.cons.injEq, Value.int.injEq, Value.string.injEq, Value.slice.injEq, true_and, and_true] at ev2
  obtain ⟨rfl, rfl, rfl, rfl, rfl, rfl⟩ := ev2
  have hA2 : AnyT w2 (w.heap.size + 1) t.K t.N t.S (.slice av l cv) 64 := by
    have hcnt := sm_cnt 3 t.L hsm.2.2.2 hsm.2.2.1
    have h64 : (4 : Nat) ^ 3 = 64 := by decide
    exact ⟨3, t.L, fp, hown, fun g hg => by have := hfr.2 g hg; omega, hwf.2.2.2, hwf.1, hwf.2.1, by have := hsm.2.1; omega, by omega⟩
  have n2 := (hg2.block _ (by omega) (by simp; omega)).trans n1
  have hz2 := hg2.size
  obtain ⟨W3, hW3⟩ : ∃ W, W = w2.alloc (.cells #[.int .i64 t.K, .int .i64 t.N, .string t.S, .slice av l cv] 26) := ⟨_, rfl⟩
  have hg3 : w2.grownBy W3 (some p) := by rw [hW3]; exact World.grownBy_alloc w2 _ (some p)
  have hb3 : Below w2.heap.size w2 W3 := by rw [hW3]; exact (Below.refl _ _).alloc (Nat.le_refl _) _
  have n3 : W3.heap[w2.heap.size]? = some (.cells #[.int .i64 t.K, .int .i64 t.N, .string t.S, .slice av l cv] 26 (0, 0)) := by rw [hW3]; exact heap_alloc_new w2 _
  have m3 := (hb3.block _ (by omega)).trans n2
  have hz3 : W3.heap.size = w2.heap.size + 1 := by rw [hW3]; simp
  have hgw3 : w.grownBy W3 (some p) := grownBy_trans (grownBy_trans hg1 hg2) hg3
  have hc3 : Cur W3 p a len cap := hc2.same (hb3.block p hc2.lt)
  have hr3 := hr.grown hgw3 HNE.out
  have HOW : Hid (OwnL 3 W3 (.slice av l cv) t.L fp ∧ ∀ g ∈ fp, p < g ∧ g < W3.heap.size) := ⟨hown.frame fun g hg => hb3.block g (hfr.2 g hg).2, fun g hg => by have := hfr.2 g hg; omega⟩
  have hA3 := hA2.frame (w' := W3) (fun g _ h2 => hb3.block g h2) hb3.size
  have hO := l1OnceT_any p len cap a zs 5 W3 hc3 hr3 HNE.out hmx (by omega) (by omega)
  rw [hW3] at hO
  have HW3 : Hid (W3 = _) := hW3
  have HT : Hid (SmT 4 t ∧ WfT 4 t) := ⟨hsm, hwf⟩
  clear hW3 HP hown hfr hwf hsm hA2 n2 n1 hg1 hg2 hc2 hr1 HW1 ev
  go_wp2_with fail
  refine hO.mono ?_
  clear hO
  rintro e w4 ⟨b, rfl, hc4, hg4⟩
  rw [← HW3.out] at hg4
  have n4 := (hg4.block _ (by omega) (by simp; omega)).trans n3
  have m4 := (hg4.block _ (by omega) (by simp; omega)).trans m3
  have hz4 := hg4.size
  have hgw4 : w.grownBy w4 (some p) := grownBy_trans hgw3 hg4
  have hA4 := hA3.frame (w' := w4) (fun g h1 h2 => hg4.block g h2 (by simp; omega)) hg4.size
  have hzT : w2.heap.size < w4.heap.size := by omega
  have hzR : w.heap.size < w4.heap.size := by omega
  obtain ⟨T, hT⟩ : ∃ T, w2.heap.size = T := ⟨_, rfl⟩
  rw [hT] at n4 hzT ⊢
  have hTR : w.heap.size < T := by omega
  obtain ⟨x0, x1, x2, x3, y0, y1, y2, y3⟩ := four_cells n4
  obtain ⟨r0, r1, r2, r3, v0, v1, v2, v3⟩ := four_cells m4
  cases b
  · have HF : Hid (∀ Z, Turned w.heap.size w4 Z → BPost p a len cap w Z t.K t.N t.S (.slice av l cv)) := fun Z hZ =>
      ⟨((hA4.frame (fun g h1 h2 => hZ.block g h2 (by omega)) hZ.size).low (by omega)).up (by omega), hc4.same (hZ.block p hc4.lt (by omega)), ⟨hZ.os.trans hgw4.os, hZ.tape.trans hgw4.tape, hZ.output.trans hgw4.output, Nat.le_trans hgw4.size hZ.size, fun g hg hn => (hZ.block g (Nat.lt_of_lt_of_le hg hgw4.size) (by omega)).trans (hgw4.block g hg hn)⟩⟩
    clear hc4 hg4 hA4 n4 m4 hA3 n3 m3 hgw3 hgw4 hc3 hr3
    go_wp2_with fail
    refine bodyPost_ret (v := .agg #[.int .i64 t.K, .int .i64 t.N, .string t.S, .slice av l cv]) (by first | (simp [results, Try.results16, go_sem, r0, r1, r2, r3]; done) | (simp [results, Try.results16, go_sem, r0, r1, r2, r3]; rfl)) rfl ⟨t.K, t.N, t.S, _, _, _, rfl, HF.out _ ?_⟩
    repeat (first | exact Turned.refl _ _ | refine Turned.trans ?_ (Turned.of_set _ _ _ _))
  · have hrdx : RdL 3 w4 (.slice av l cv) t.L := (HOW.out.1.frame fun g hg => hg4.block g (HOW.out.2 g hg).2 (by have := (HOW.out.2 g hg).1; simp; omega)).rd
    have hB := l2Bend_any p len cap a zs t (.slice av l cv) w4 hc4 (hr.grown hgw4 HNE.out) HNE.out hmx hrdx HT.out.2 HT.out.1
    have HN : Hid (w4.heap[T]? = some (.cells #[.int .i64 t.K, .int .i64 t.N, .string t.S, .slice av l cv] 26 (0, 0)) ∧ w4.heap[w.heap.size]? = some (.cells #[.int .i64 0, .int .i64 0, .string ⟨#[]⟩, .slice none 0 0] 26 (0, 0))) := ⟨n4, m4⟩
    have HGW : Hid (w.grownBy w4 (some p)) := hgw4
    clear hc4 hg4 hA4 n4 m4 hA3 n3 m3 hgw3 hgw4 hc3 hr3 hrdx
    go_wp2_with fail
    refine hB.mono ?_
    clear hB
    rintro e w5 ⟨k, n, s, av5, lv5, cv5, rfl, HP5⟩
    obtain ⟨hA5, hc5, hg5⟩ := HP5.out
    have n5 := (hg5.block _ hzT (by simp; omega)).trans HN.out.1
    have m5 := (hg5.block _ hzR (by simp; omega)).trans HN.out.2
    have hz5 := hg5.size
    have hzT5 : T < w5.heap.size := by omega
    have hzR5 : w.heap.size < w5.heap.size := by omega
    have hgw5 : w.grownBy w5 (some p) := grownBy_trans HGW.out hg5
    have HF : Hid (∀ Y Z, Turned T w5 Y → Turned w.heap.size Y Z → BPost p a len cap w Z k n s (.slice av5 lv5 cv5)) := fun Y Z hY hZ => by
      have hYz := hY.size
      have hbl : ∀ g, g < w5.heap.size → g ≠ T → g ≠ w.heap.size → Z.heap[g]? = w5.heap[g]? := fun g h1 h2 h3 => (hZ.block g (by omega) h3).trans (hY.block g h1 h2)
      exact ⟨(hA5.frame (fun g h1 h2 => hbl g h2 (by omega) (by omega)) (Nat.le_trans hYz hZ.size)).low (by omega), hc5.same (hbl p hc5.lt (by omega) (by omega)), ⟨hZ.os.trans (hY.os.trans hgw5.os), hZ.tape.trans (hY.tape.trans hgw5.tape), hZ.output.trans (hY.output.trans hgw5.output), Nat.le_trans hgw5.size (Nat.le_trans hYz hZ.size), fun g hg hn => (hbl g (Nat.lt_of_lt_of_le hg hgw5.size) (by omega) (by omega)).trans (hgw5.block g hg hn)⟩⟩
    clear x0 x1 x2 x3 y0 y1 y2 y3 r0 r1 r2 r3 v0 v1 v2 v3
    obtain ⟨x0, x1, x2, x3, y0, y1, y2, y3⟩ := four_cells n5
    obtain ⟨r0, r1, r2, r3, v0, v1, v2, v3⟩ := four_cells m5
    clear hA5 hc5 hg5 n5 m5 hgw5 HP5 HN HGW
    go_wp2_with fail
    refine bodyPost_ret (v := .agg #[.int .i64 k, .int .i64 n, .string s, .slice av5 lv5 cv5]) (by first | (simp [results, Try.results16, go_sem, r0, r1, r2, r3]; done) | (simp [results, Try.results16, go_sem, r0, r1, r2, r3]; rfl)) rfl ⟨k, n, s, _, _, _, rfl, ?_⟩
    exact HF.out _ _ ((((Turned.of_set _ _ _ _).trans (Turned.of_set _ _ _ _)).trans (Turned.of_set _ _ _ _)).trans (Turned.of_set _ _ _ _)) ((((Turned.of_set _ _ _ _).trans (Turned.of_set _ _ _ _)).trans (Turned.of_set _ _ _ _)).trans (Turned.of_set _ _ _ _))

/-- A leaf of a list. -/
def leaf1 : Tm 1 := mkT 1 0 ⟨#[]⟩ ([] : List (Tm 0))

/-- Where a draw of a long list stands. -/
structure LMid (w wr : World) (T j : Nat) (a : Option Addr) (len cap : Nat) (v : Value) : Prop where
  res : wr.heap[w.heap.size]? = some (.cells #[.int .i64 0, .int .i64 0, .string ⟨#[]⟩, .slice none 0 0] 26 (0, 0))
  box : wr.heap[T]? = some (.cells #[.int .i64 5, .int .i64 0, .string ⟨#[]⟩, v] 26 (0, 0))
  cur : Cur wr (w.heap.size + 1) a len cap
  bel : Below w.heap.size w wr
  made : ∃ fp, Made 1 (T + 1) wr v (List.replicate j leaf1) fp

theorem LMid.later {w wr V : World} {T j len cap : Nat} {a : Option Addr} {v : Value} (h : LMid w wr T j a len cap v) (hT : w.heap.size + 1 < T) (hg : wr.grownBy V (some (w.heap.size + 1))) (hc : Cur V (w.heap.size + 1) a len cap) : LMid w V T j a len cap v := by
  obtain ⟨fp, hM⟩ := h.made
  have z := lt_of_row' h.box
  refine ⟨(hg.block _ (by omega) (by simp)).trans h.res, (hg.block _ z (by simp; omega)).trans h.box, hc, h.bel.trans (grown_below hg (by omega) h.bel.size), fp, hM.frame (fun g hg' => ?_) hg.size⟩
  obtain ⟨_, _, _, _, _, h4, _⟩ := hM
  exact hg.block g (h4.2 g hg').2 (by have := (h4.2 g hg').1; simp; omega)

theorem LMid.step {w wr w2 : World} {T j len cap : Nat} {a av av2 : Option Addr} {lv cv lv2 cv2 : Nat} {cs : List Value} (h : LMid w wr T j a len cap (.slice av lv cv)) (hT : w.heap.size + 1 < T) (hj : j ≤ 100) (hrow : wr.ownsRow (T + 1) 26 4 (.slice av lv cv) j cs)
    (hown : w2.ownsRow (T + 1) 26 4 (.slice av2 lv2 cv2) (j + 1) (cs ++ [.int .i64 1, .int .i64 0, .string ⟨#[]⟩, .slice none 0 0])) (hgr : (wr.alloc (.cells #[.int .i64 1, .int .i64 0, .string ⟨#[]⟩, .slice none 0 0] 26)).grownBy w2 (Value.slice av lv cv).ownBlock)
    (hat : (Value.slice av2 lv2 cv2).ownBlock = (Value.slice av lv cv).ownBlock ∨ (Value.slice av2 lv2 cv2).ownBlock = some (wr.alloc (.cells #[.int .i64 1, .int .i64 0, .string ⟨#[]⟩, .slice none 0 0] 26)).heap.size) :
    w2.heap[T]? = some (.cells #[.int .i64 5, .int .i64 0, .string ⟨#[]⟩, .slice av lv cv] 26 (0, 0)) ∧ LMid w (w2.setCell ⟨T, 3, none⟩ (.slice av2 lv2 cv2)) T (j + 1) a len cap (.slice av2 lv2 cv2) := by
  obtain ⟨fp, hM⟩ := h.made
  have z := lt_of_row' h.box
  obtain ⟨V, hV⟩ : ∃ V, V = wr.alloc (.cells #[.int .i64 1, .int .i64 0, .string ⟨#[]⟩, .slice none 0 0] 26) := ⟨_, rfl⟩
  have hb : Below wr.heap.size wr V := by rw [hV]; exact (Below.refl _ _).alloc (Nat.le_refl _) _
  rw [← hV] at hgr hat
  have hz2 := hb.size
  have hz3 := hgr.size
  have hob : ∀ g, (Value.slice av lv cv).ownBlock = some g → T + 1 ≤ g := fun g hg => by
    rcases hrow.2 with ⟨e, _⟩ | ⟨g', c', cur, e1, e2, e3, _⟩
    · rw [e] at hg; cases hg
    · rw [e1] at hg
      obtain rfl : g' = g := by simpa [Value.ownBlock] using hg
      exact e2
  have hk : ∀ g, g < T + 1 → w2.heap[g]? = wr.heap[g]? := fun g hg => (hgr.block g (by omega) (fun e => by have := hob g e.symm; omega)).trans (hb.block g (by omega))
  obtain ⟨cs', fps, r1, r2, r3, r4, r5, r6⟩ := hM
  rw [List.length_replicate] at r1 r2
  obtain rfl := row_cs r1 hrow
  subst r3
  have hkp : ∀ g ∈ (Value.slice av lv cv).ownBlock.toList ++ fps.flatten, V.heap[g]? = wr.heap[g]? := fun g hg => hb.block g (r4.2 g hg).2
  have hlr : (List.replicate j leaf1).length = j := List.length_replicate
  obtain ⟨fp', hm, _⟩ := made_step (w := V) (t := leaf1) (f := []) (lv := .slice none 0 0) (ts := List.replicate j leaf1) (by rw [hlr]; exact rowKept r1 fun g hg => hkp g (List.mem_append_left _ (by rw [hg]; exact List.mem_singleton.2 rfl))) (by rw [hlr]; exact r2) ⟨r4.1, fun g hg => ⟨(r4.2 g hg).1, Nat.lt_of_lt_of_le (r4.2 g hg).2 hz2⟩⟩ r5 (r6.frame fun g hg => hkp g (List.mem_append_right _ hg))
    (ownL_nil 0 V) ⟨List.nodup_nil, fun g hg => by cases hg⟩ (fun g hg => by cases hg) ⟨⟨by show _ ≤ (1 : Int); omega, by show (1 : Int) ≤ _; omega⟩, ⟨by show _ ≤ (0 : Int); omega, by show (0 : Int) ≤ _; omega⟩, Nat.zero_le _, wfL_nil 0⟩ (by rw [hlr]; omega) (by omega) (by rw [hlr]; exact hown) hgr hat
  have hkT := (hk T (by omega)).trans h.box
  have hbel : Below w.heap.size w w2 := ⟨hgr.os.trans (hb.os.trans h.bel.os), hgr.tape.trans (hb.tape.trans h.bel.tape), hgr.output.trans (hb.output.trans h.bel.output), by have := h.bel.size; omega, fun g hg => (hk g (by omega)).trans (h.bel.block g hg)⟩
  refine ⟨hkT, ?_, heap_setCell_same w2 _ 3 _ _ _ hkT, cur_set (h.cur.same (hk _ (by omega))) (by omega), hbel.trans ((Turned.of_set w2 T 3 _).below (by omega) hbel.size), fp', ?_⟩
  · exact (heap_setCell_other _ _ _ _ (by show w.heap.size ≠ T; omega)).trans ((hk _ (by omega)).trans h.res)
  · rw [List.replicate_succ', ]
    refine hm.frame (fun g hg => ?_) (by simp)
    obtain ⟨_, _, _, _, _, h4, _⟩ := hm
    exact heap_setCell_other _ _ _ _ (by have := (h4.2 g hg).1; show g ≠ T; omega)

theorem cnt_leaves (j : Nat) : cntL 1 (List.replicate j leaf1) = j := by
  induction j with
  | zero => rfl
  | succ j ih =>
    rw [List.replicate_succ, cntL_cons, ih]
    show 1 + 0 + j = j + 1
    omega

theorem LMid.fin {w wr Z : World} {T j len cap : Nat} {a : Option Addr} {v : Value} (h : LMid w wr T j a len cap v) (hT : w.heap.size + 1 < T) (hj : j ≤ 100) (hZ : Turned w.heap.size wr Z) : AnyT Z w.heap.size 5 0 ⟨#[]⟩ v 200 ∧ Below w.heap.size w Z := by
  obtain ⟨fp, hM⟩ := h.made
  obtain ⟨a', l', c', f3, e3, q1, q2, q3⟩ := hM.own
  refine ⟨⟨1, _, f3, q1.frame fun g hg => hZ.block g (q2.2 g hg).2 (by have := (q2.2 g hg).1; omega), fun g hg => ⟨by have := (q2.2 g hg).1; omega, Nat.lt_of_lt_of_le (q2.2 g hg).2 hZ.size⟩, q3, ⟨by omega, by omega⟩, ⟨by omega, by omega⟩, Nat.zero_le _, by rw [cnt_leaves]; omega⟩, h.bel.trans (hZ.below (Nat.le_refl _) h.bel.size)⟩

end Go.Proofs.Ytbllnmafilabpaa

/- A draw of a term for the counts: the walk. -/
namespace Go.Proofs.Ytbllnmafilabpaa
open Go.RowKit
set_option linter.unusedVariables false

end Go.Proofs.Ytbllnmafilabpaa

/- Drawn terms of three storeys, in blocks of a known stretch. -/
namespace Go.Proofs.Ytbllnmafilabpaa
open Go.RowKit
set_option linter.unusedVariables false

/-- A small right term whose blocks lie from lo up to hi. -/
def Own3 (lo hi : Nat) (w : World) (k n : Int) (s : ByteArray) (l : Value) : Prop :=
  ∃ (ts : List (Tm 2)) (fp : List Nat), OwnL 2 w l ts fp ∧ (fp.Nodup ∧ ∀ g ∈ fp, lo ≤ g ∧ g < hi) ∧ WfL 2 ts ∧ I64 k ∧ I64 n ∧ s.size ≤ maxLen ∧ SmT 3 (mk k n s ts)

/-- The same, to be read alone. -/
def Rd3 (lo hi : Nat) (w : World) (k n : Int) (s : ByteArray) (l : Value) : Prop :=
  ∃ (ts : List (Tm 2)) (fp : List Nat), OwnL 2 w l ts fp ∧ (∀ g ∈ fp, lo ≤ g ∧ g < hi) ∧ WfL 2 ts ∧ I64 k ∧ I64 n ∧ s.size ≤ maxLen ∧ SmT 3 (mk k n s ts)

theorem Own3.rd3 {lo hi : Nat} {w : World} {k n : Int} {s : ByteArray} {l : Value} (h : Own3 lo hi w k n s l) : Rd3 lo hi w k n s l := by
  obtain ⟨ts, fp, h1, h2, h3⟩ := h
  exact ⟨ts, fp, h1, h2.2, h3⟩
theorem Own3.frame {lo hi : Nat} {w w' : World} {k n : Int} {s : ByteArray} {l : Value} (h : Own3 lo hi w k n s l) (hf : ∀ g, lo ≤ g → g < hi → w'.heap[g]? = w.heap[g]?) : Own3 lo hi w' k n s l := by
  obtain ⟨ts, fp, h1, h2, h3⟩ := h
  exact ⟨ts, fp, h1.frame fun g hg => hf g (h2.2 g hg).1 (h2.2 g hg).2, h2, h3⟩
theorem Rd3.frame {lo hi : Nat} {w w' : World} {k n : Int} {s : ByteArray} {l : Value} (h : Rd3 lo hi w k n s l) (hf : ∀ g, lo ≤ g → g < hi → w'.heap[g]? = w.heap[g]?) : Rd3 lo hi w' k n s l := by
  obtain ⟨ts, fp, h1, h2, h3⟩ := h
  exact ⟨ts, fp, h1.frame fun g hg => hf g (h2 g hg).1 (h2 g hg).2, h2, h3⟩
theorem Own3.wide {lo hi lo' hi' : Nat} {w : World} {k n : Int} {s : ByteArray} {l : Value} (h : Own3 lo hi w k n s l) (h1 : lo' ≤ lo) (h2 : hi ≤ hi') : Own3 lo' hi' w k n s l := by
  obtain ⟨ts, fp, h3, h4, h5⟩ := h
  exact ⟨ts, fp, h3, ⟨h4.1, fun g hg => by have := h4.2 g hg; omega⟩, h5⟩
theorem Rd3.wide {lo hi lo' hi' : Nat} {w : World} {k n : Int} {s : ByteArray} {l : Value} (h : Rd3 lo hi w k n s l) (h1 : lo' ≤ lo) (h2 : hi ≤ hi') : Rd3 lo' hi' w k n s l := by
  obtain ⟨ts, fp, h3, h4, h5⟩ := h
  exact ⟨ts, fp, h3, fun g hg => by have := h4 g hg; omega, h5⟩

theorem own_draw {p len cap : Nat} {a : Option Addr} {w w' : World} {k n : Int} {s : ByteArray} {av : Option Addr} {l c : Nat} (h : DPost 3 p a len cap w w' (.agg #[.int .i64 k, .int .i64 n, .string s, .slice av l c])) : Own3 w.heap.size w'.heap.size w' k n s (.slice av l c) ∧ Cur w' p a len cap ∧ w.grownBy w' (some p) := by
  obtain ⟨hc, hg, t, fp, hown, hfr, hwf, hsm⟩ := h
  obtain ⟨a', l', c', ev, hown⟩ := hown
  simp only [Value.agg.injEq] at ev
  have ev2 : ([.int .i64 k, .int .i64 n, .string s, .slice av l c] : List Value) = [.int .i64 t.K, .int .i64 t.N, .string t.S, .slice a' l' c'] := by simpa using congrArg Array.toList ev
  simp only [List.cons.injEq, Value.int.injEq, Value.string.injEq, Value.slice.injEq, true_and, and_true] at ev2
  obtain ⟨rfl, rfl, rfl, rfl, rfl, rfl⟩ := ev2
  exact ⟨⟨t.L, fp, hown, hfr, hwf.2.2.2, hwf.1, hwf.2.1, hwf.2.2.1, hsm⟩, hc, hg⟩

/-- An element of a list is set anew. -/
theorem own_set {d : Nat} {w : World} {v : Value} {ts : List (Tm (d + 1))} {fp : List Nat} (h : OwnL (d + 1) w v ts fp) (hnd : fp.Nodup) (i : Nat) (hi : i < ts.length) :
    ∃ g c cur, v = .slice (some ⟨g, 0, none⟩) ts.length c ∧ w.heap[g]? = some (.cells cur 26 (0, 0)) ∧ i * 4 + 3 < cur.size ∧ g ∈ fp ∧
      ∀ (w' : World) (t' : Tm (d + 1)) (lv' : Value) (f' : List Nat), w'.heap[g]? = some (.cells (put4 cur (i * 4) (.int .i64 t'.K) (.int .i64 t'.N) (.string t'.S) lv') 26 (0, 0)) → (∀ j ∈ fp, j ≠ g → w'.heap[j]? = w.heap[j]?) → OwnL d w' lv' t'.L f' →
        ∃ fp', OwnL (d + 1) w' v (ts.set i t') fp' ∧ ∀ x ∈ fp', x ∈ fp ∨ x ∈ f' := by
  rcases h with ⟨rfl, _⟩ | ⟨g, c, cur, fps, h1, h2, h3, h4, h5⟩
  · simp at hi
  · obtain ⟨lv0, f0, e1, e2, e3, e4, e5, e6⟩ := h5 i ts[i] (List.getElem?_eq_getElem hi)
    have hs : i * 4 + 3 < cur.size := by
      rcases Nat.lt_or_ge (i * 4 + 3) cur.size with h | h
      · exact h
      · rw [Array.getElem?_eq_none h] at e5; cases e5
    refine ⟨g, c, cur, h1, h2, hs, by rw [h4]; exact List.mem_cons_self .., fun w' t' lv' f' n1 n2 n3 => ⟨g :: (fps.set i f').flatten, .inr ⟨g, c, _, fps.set i f', by rw [List.length_set]; exact h1, n1, by simp [h3], rfl, ?_⟩, ?_⟩⟩
    · intro j t ht
      obtain ⟨p0, p1, p2, p3⟩ := put4_at cur (i * 4) (.int .i64 t'.K) (.int .i64 t'.N) (.string t'.S) lv' hs
      by_cases hij : i = j
      · subst hij
        rw [List.getElem?_set_self hi] at ht
        obtain rfl : t' = t := by simpa using ht
        exact ⟨lv', f', by rw [List.getElem?_set_self (by omega)], p0, p1, p2, p3, n3⟩
      · rw [List.getElem?_set_ne hij] at ht
        obtain ⟨lv1, f1, q1, q2, q3, q4, q5, q6⟩ := h5 j t ht
        refine ⟨lv1, f1, by rw [List.getElem?_set_ne hij]; exact q1, ?_, ?_, ?_, ?_, q6.frame fun x hx => n2 x (by rw [h4]; exact List.mem_cons_of_mem _ (List.mem_flatten.2 ⟨f1, List.mem_of_getElem? q1, hx⟩)) ?_⟩
        · rw [put4_other _ _ _ _ _ _ _ (by omega)]; exact q2
        · rw [put4_other _ _ _ _ _ _ _ (by omega)]; exact q3
        · rw [put4_other _ _ _ _ _ _ _ (by omega)]; exact q4
        · rw [put4_other _ _ _ _ _ _ _ (by omega)]; exact q5
        · rintro rfl
          rw [h4] at hnd
          exact (List.nodup_cons.1 hnd).1 (List.mem_flatten.2 ⟨f1, List.mem_of_getElem? q1, hx⟩)
    · intro x hx
      rcases List.mem_cons.1 hx with rfl | hx
      · exact .inl (by rw [h4]; exact List.mem_cons_self ..)
      · obtain ⟨f1, hf, hx1⟩ := List.mem_flatten.1 hx
        rcases List.mem_or_eq_of_mem_set hf with hf | rfl
        · exact .inl (by rw [h4]; exact List.mem_cons_of_mem _ (List.mem_flatten.2 ⟨f1, hf, hx1⟩))
        · exact .inr hx1

theorem wf_set {d : Nat} {ts : List (Tm (d + 1))} {i : Nat} {t' : Tm (d + 1)} (h : WfL (d + 1) ts) (ht : WfT (d + 1) t') : WfL (d + 1) (ts.set i t') :=
  ⟨by rw [List.length_set]; exact h.1, fun t hm => by
    rcases List.mem_or_eq_of_mem_set hm with hm | rfl
    · exact h.2 t hm
    · exact ht⟩

/-- The element set anew, at a term of three storeys. -/
theorem Own3.set {lo hi : Nat} {w : World} {k n : Int} {s : ByteArray} {a : Option Addr} {len c : Nat} (h : Own3 lo hi w k n s (.slice a len c)) (i : Nat) (hi' : i < len) : len ≤ 3 ∧
    ∃ g cur, a = some ⟨g, 0, none⟩ ∧ w.heap[g]? = some (.cells cur 26 (0, 0)) ∧ i * 4 + 3 < cur.size ∧ lo ≤ g ∧ g < hi ∧
      ∀ (w' : World) (t' : Tm 2) (lv' : Value) (f' : List Nat), w'.heap[g]? = some (.cells (put4 cur (i * 4) (.int .i64 t'.K) (.int .i64 t'.N) (.string t'.S) lv') 26 (0, 0)) → (∀ j, lo ≤ j → j < hi → j ≠ g → w'.heap[j]? = w.heap[j]?) → OwnL 1 w' lv' t'.L f' → WfT 2 t' → SmT 2 t' → (∀ j ∈ f', lo ≤ j ∧ j < w'.heap.size) → hi ≤ w'.heap.size → Rd3 lo w'.heap.size w' k n s (.slice a len c) := by
  obtain ⟨ts, fp, h1, h2, h3, h4, h5, h6, h7⟩ := h
  obtain ⟨a0, c0, e0⟩ := h1.rd.len
  simp only [Value.slice.injEq] at e0
  obtain ⟨rfl, rfl, rfl⟩ := e0
  obtain ⟨g, c, cur, e1, e2, e3, e4, e5⟩ := own_set h1 h2.1 i hi'
  simp only [Value.slice.injEq, true_and] at e1
  obtain ⟨rfl, rfl⟩ := e1
  refine ⟨h7.2.2.1, g, cur, rfl, e2, e3, (h2.2 g e4).1, (h2.2 g e4).2, fun w' t' lv' f' m1 m2 m3 m4 m5 m6 m7 => ?_⟩
  obtain ⟨fp', q1, q2⟩ := e5 w' t' lv' f' m1 (fun j hj hne => m2 j (h2.2 j hj).1 (h2.2 j hj).2 hne) m3
  refine ⟨ts.set i t', fp', q1, fun x hx => ?_, wf_set h3 m4, h4, h5, h6, ?_⟩
  · rcases q2 x hx with hx | hx
    · have := h2.2 x hx; omega
    · exact m6 x hx
  · obtain ⟨s1, s2, s3, s4⟩ := h7
    refine ⟨?_, s2, ?_, fun u hu => ?_⟩
    · show Shape k n s (ts.set i t').length
      rw [List.length_set]; exact s1
    · show (ts.set i t').length ≤ 3
      rw [List.length_set]; exact s3
    · rcases List.mem_or_eq_of_mem_set (show u ∈ ts.set i t' from hu) with hu | rfl
      · exact s4 u hu
      · exact m5

end Go.Proofs.Ytbllnmafilabpaa
