/- The draw of terms to be sorted. -/
import Derived.Test.YtjdhkhpdhblhbaaSo4M
import Derived.Test.YtjdhkhpdhblhbaaCpM
import Derived.Test.YtjdhkhpdhblhbaaDrTm2M
namespace Go.Proofs.Ytjdhkhpdhblhbaa
open Go.RowKit
set_option linter.unusedVariables false

/-- Where the draw stands. -/
def DrS (w0 wr : World) (p : Nat) (a : Option Addr) (len cap : Nat) (out : Value) (ts : List (Tm 2)) : Prop :=
  Cur wr p a len cap ∧ Below w0.heap.size w0 wr ∧ (∃ fp, Made 2 (p + 1) wr out ts fp) ∧ (∀ u ∈ ts, SmT 2 u) ∧ ∃ ad l c, out = .slice (some ad) l c

theorem DrS.row {w0 wr : World} {p : Nat} {a : Option Addr} {len cap : Nat} {out : Value} {ts : List (Tm 2)} (h : DrS w0 wr p a len cap out ts) : ∃ cs, wr.ownsRow (p + 1) 29 4 out ts.length cs := by
  obtain ⟨_, _, ⟨fp, hM⟩, _⟩ := h
  exact made_row hM

theorem drs_step {w0 wr w' V2 w2 : World} {p : Nat} {a : Option Addr} {len cap : Nat} {out v' : Value} {ts : List (Tm 2)} {cs : List Value} {k2 x2 : Int} {s2 : ByteArray} {a2 : Option Addr} {l2 c2 : Nat} (h : DrS w0 wr p a len cap out ts) (hp : w0.heap.size ≤ p) (hts : ts.length ≤ 100) (hrow : wr.ownsRow (p + 1) 29 4 out ts.length cs)
    (hP : DPost 2 p a len cap wr w' (.agg #[.int .i64 k2, .int .i64 x2, .string s2, .slice a2 l2 c2])) (hV2 : Below w'.heap.size w' V2)
    (hown : w2.ownsRow (p + 1) 29 4 v' (ts.length + 1) (cs ++ [.int .i64 k2, .int .i64 x2, .string s2, .slice a2 l2 c2])) (hgr : V2.grownBy w2 out.ownBlock) (hat : v'.ownBlock = out.ownBlock ∨ v'.ownBlock = some V2.heap.size) :
    ∃ t, DrS w0 w2 p a len cap v' (ts ++ [t]) := by
  obtain ⟨hc, hb, ⟨fp, hM⟩, hsm, _⟩ := h
  obtain ⟨hc', p1, t, f, q1, g2, g3, g4⟩ := hP
  obtain ⟨a', l', c', ev, q1⟩ := q1
  obtain ⟨cs', fps, r1, r2, r3, r4, r5, r6⟩ := hM
  obtain rfl := row_cs r1 hrow
  simp only [Value.agg.injEq] at ev
  have ev2 : ([.int .i64 k2, .int .i64 x2, .string s2, .slice a2 l2 c2] : List Value) = [.int .i64 t.K, .int .i64 t.N, .string t.S, .slice a' l' c'] := by simpa using congrArg Array.toList ev
  rw [ev2] at hown
  subst r3
  have z1 := p1.size
  have z2 := hV2.size
  have hcl := hc'.lt
  have hpw := hc.lt
  have hob : ∀ g, out.ownBlock = some g → p + 1 ≤ g := fun g hg => (r4.2 g (List.mem_append_left _ (by rw [hg]; exact List.mem_singleton.2 rfl))).1
  have kp : ∀ g, g < wr.heap.size → g ≠ p → V2.heap[g]? = wr.heap[g]? := fun g hg hne => (hV2.block g (by omega)).trans (p1.block g hg (by simpa using hne))
  have hF : Fresh (p + 1) V2 (out.ownBlock.toList ++ fps.flatten) := ⟨r4.1, fun g hg => ⟨(r4.2 g hg).1, by have := (r4.2 g hg).2; omega⟩⟩
  have hpn : ∀ g ∈ out.ownBlock.toList ++ fps.flatten, V2.heap[g]? = wr.heap[g]? := fun g hg => kp g (r4.2 g hg).2 (by have := (r4.2 g hg).1; omega)
  obtain ⟨fp', hm, _⟩ := made_step (w := V2) (t := t) (f := f) (rowKept r1 fun g hg => hpn g (List.mem_append_left _ (by rw [hg]; exact List.mem_singleton.2 rfl))) r2 hF r5 (r6.frame fun g hg => hpn g (List.mem_append_right _ hg))
    (q1.frame fun g hg => hV2.block g (g2.2 g hg).2) ⟨g2.1, fun g hg => ⟨by have := (g2.2 g hg).1; omega, by have := (g2.2 g hg).2; omega⟩⟩ (fun g hg hf => by have := (g2.2 g hg).1; have := (r4.2 g hf).2; omega) g3 (by omega) (by omega) hown hgr hat
  have hbV : Below w0.heap.size w0 V2 := by
    have h1 : Below w0.heap.size w0 w' := hb.grown p1 hb.size (fun k hk => by cases hk; exact hp)
    exact h1.trans (hV2.mono h1.size)
  refine ⟨t, hc'.same ((hgr.block p (by omega) (fun e => by have := hob p e.symm; omega)).trans (hV2.block p hcl)), hbV.grown hgr hbV.size (fun k hk => by have := hob k hk; omega), ⟨fp', hm⟩, fun u hu => ?_, ?_⟩
  · rcases List.mem_append.1 hu with hu | hu
    · exact hsm u hu
    · obtain rfl := List.mem_singleton.1 hu
      exact g4
  · rcases hown.2 with ⟨_, e⟩ | ⟨g', c', cur', e1, _⟩
    · omega
    · exact ⟨_, _, _, e1⟩

theorem four_new' (w : World) (a b c d : Value) (t : TypeId) : ∀ j u, [a, b, c, d][j]? = some u → (w.alloc (.cells #[a, b, c, d] t)).cell? ((⟨w.heap.size, 0, none⟩ : Addr).add j) = some u := by
  intro j u hj
  match j, hj with
  | 0, hj => simp at hj; subst hj; simp [Addr.add]
  | 1, hj => simp at hj; subst hj; simp [Addr.add]
  | 2, hj => simp at hj; subst hj; simp [Addr.add]
  | 3, hj => simp at hj; subst hj; simp [Addr.add]

/-- What comes of the draw. -/
def DrawRes (w : World) (a : Option Addr) (len cap : Nat) (e : Ending) (w' : World) : Prop := ∃ ad l c ts, e = .returned (.slice (some ad) l c) ∧ ts.length ≤ 5 ∧ DrS w w' w.heap.size a len cap (.slice (some ad) l c) ts

set_option maxRecDepth 100000 in
set_option maxHeartbeats 2000000 in
theorem drawSort_any (a : Option Addr) (len cap : Nat) (zs : List Int) (w : World) (hr : IsRow .u8 w a len cap zs) (hm : len ≤ 1048576) :
    Calls Try.prog 28 #[.slice a len cap] w fun e w' => DrawRes w a len cap e w' := by
  obtain ⟨i0, hi, hi0, hi1, hi2⟩ := info_parts Try.infoTerm
  have hne := isRow_old hr
  have hN := l1New_any a len cap zs w hr (by omega)
  have HR : Hid (∀ V : World, Below w.heap.size w V → IsRow .u8 V a len cap zs) := fun V hV => hr.later hV
  have HNE : Hid _ := hne
  clear hr hne
  obtain ⟨p, hp⟩ : ∃ p, w.heap.size = p := ⟨_, rfl⟩
  have HP : Hid (w.heap.size = p) := hp
  rw [hp] at hN
  go_enter Try.func28, Try.ntmps28
  go_wp2_with fail
  refine hN.mono ?_
  clear hN
  rintro e w2 ⟨rfl, hc2, hb2⟩
  rw [← hp] at hb2
  obtain ⟨W, hW⟩ : ∃ W, W = w2.alloc (.cells #[] 29) := ⟨_, rfl⟩
  have hbW : Below w2.heap.size w2 W := by rw [hW]; exact (Below.refl _ _).alloc (Nat.le_refl _) _
  have hnW : W.heap[w2.heap.size]? = some (.cells #[] 29 (0, 0)) := by rw [hW]; exact heap_alloc_new w2 _
  have hpw := hc2.lt
  have hbwW : Below w.heap.size w W := hb2.trans (hbW.mono hb2.size)
  have hcW : Cur W p a len cap := hc2.same (hbW.block _ hpw)
  have hB := l1Below_any p len cap a zs 6 W hcW (HR.out W hbwW) (by rw [← HP.out]; exact HNE.out) (by omega) (by omega) (by omega)
  rw [hW] at hB
  have HW : Hid (W = _) := hW
  have HS0 : Hid (DrS w W p a len cap (.slice (some ⟨w2.heap.size, 0, none⟩) 0 0) []) := ⟨hcW, hbwW, ⟨_, made_empty hnW (by omega)⟩, fun u hu => by simp at hu, _, _, _, rfl⟩
  clear hW hc2 hb2 hbW hnW hpw hbwW hcW
  go_wp2_with fail
  refine hB.mono ?_
  clear hB
  rw [← HW.out]
  rintro e w3 ⟨y, hy0, hy1, rfl, hc3, hg3⟩
  have HS : Hid (DrS w w3 p a len cap (.slice (some ⟨w2.heap.size, 0, none⟩) 0 0) []) := by
    obtain ⟨_, h1, ⟨fp, hM⟩, h2, h3⟩ := HS0.out
    refine ⟨hc3, h1.grown hg3 h1.size (fun k hk => by cases hk; rw [HP.out]; exact Nat.le_refl _), ⟨fp, hM.frame (fun g hg => hg3.block g ?_ ?_) hg3.size⟩, h2, h3⟩
    · obtain ⟨_, _, _, _, _, h4, _⟩ := hM
      exact (h4.2 g hg).2
    · obtain ⟨_, _, _, _, _, h4, _⟩ := hM
      have := (h4.2 g hg).1
      intro e
      have := Option.some.inj e
      omega
  clear HS0 hc3 hg3 HW
  go_wp2_with fail
  go_loopw [4, 5] (fun out i wr => Hid (∃ (z : Int) (ts : List (Tm 2)), i = .int .i64 z ∧ 0 ≤ z ∧ z + ts.length ≤ 5 ∧ DrS w wr p a len cap out ts)) (fun _ i _ => (intOf i).toNat)
  case atStart => exact ⟨y, [], rfl, hy0, by simp; omega, HS.out⟩
  case round =>
    obtain ⟨z, ts, rfl, hz0, hz1, hD⟩ := hrel.out
    clear hrel HS
    by_cases hz : 0 < z
    · obtain ⟨cs, hrow⟩ := hD.row
      obtain ⟨n, hn⟩ : ∃ n, ts.length = n := ⟨_, rfl⟩
      have HN : Hid (ts.length = n) := hn
      have hC := l2Draw_any 1 (by omega) p len cap a zs wr hD.1 (HR.out wr hD.2.1) (by rw [← HP.out]; exact HNE.out) (by omega)
      obtain ⟨ad, ol, oc, rfl⟩ := hD.2.2.2.2
      have HD : Hid (DrS w wr p a len cap (.slice (some ad) ol oc) ts ∧ wr.ownsRow (p + 1) 29 4 (.slice (some ad) ol oc) ts.length cs) := ⟨hD, hrow⟩
      rw [hn] at hrow hz1
      have hpw := hD.1.lt
      clear hD hn
      go_wp2_with fail
      refine hC.mono ?_
      clear hC
      rintro e w4 ⟨k, x, s, a4, l4, c4, rfl, HPO⟩
      have hrow4 : w4.ownsRow (p + 1) 29 4 (.slice (some ad) ol oc) n cs := by
        refine rowKept hrow fun g hg => HPO.out.2.1.block g ?_ ?_
        · rcases hrow.2 with ⟨e, _⟩ | ⟨g', c', cur, e1, e2, e3, _⟩
          · rw [e] at hg; cases hg
          · rw [e1] at hg
            obtain rfl : g' = g := by simpa [Value.ownBlock] using hg
            exact lt_row e3
        · rcases hrow.2 with ⟨e, _⟩ | ⟨g', c', cur, e1, e2, e3, _⟩
          · rw [e] at hg; cases hg
          · rw [e1] at hg
            obtain rfl : g' = g := by simpa [Value.ownBlock] using hg
            intro e
            have := Option.some.inj e
            omega
      have hz4 : p + 1 ≤ w4.heap.size := by have := HPO.out.2.1.size; omega
      clear hrow
      go_wp2_with (at_builtin; refine wpList_append_own_at _ rfl _ _ 27 rfl (p + 1) 29 i0 (.agg #[.int .i64 0, .int .i64 0, .string ⟨#[]⟩, .slice none 0 0]) 4 56 Try.underlying27 hi hi0 hi1 hi2 rfl (by decide) _ n _ rfl (hrow4.alloc _) ⟨w4.heap.size, 0, none⟩ 1 1 [.int .i64 k, .int .i64 x, .string s, .slice a4 l4 c4] rfl rfl (four_new' w4 _ _ _ _ _) (by intro u hu; simp at hu; rcases hu with rfl | rfl | rfl | rfl <;> rfl) (by unfold maxLen; omega) (by omega) (by simp; omega) ?_)
      intro v' w5 hown5 hgrow5 hnil5 hat5
      have HNX : Hid (∃ t, DrS w w5 p a len cap v' (ts ++ [t])) := drs_step HD.out.1 (by rw [HP.out]; exact Nat.le_refl _) (by have := HN.out; omega) HD.out.2 HPO.out ((Below.refl _ _).alloc (Nat.le_refl _) _) (by rw [HN.out]; exact hown5) hgrow5 (by simpa using hat5)
      clear hown5 hgrow5 hnil5 hat5 hrow4
      go_wp2_with fail
      go_roundw
      case rel =>
        obtain ⟨t, ht⟩ := HNX.out
        exact ⟨z - 1, ts ++ [t], by go_num, by omega, by have := HN.out; simp; omega, ht⟩
      case measure => simp [intOf]; omega
    · have hzd : decide ((0 : Int) < z) = false := by simp; omega
      obtain ⟨ad, ol, oc, rfl⟩ := hD.2.2.2.2
      have HE : Hid (ts.length ≤ 5 ∧ DrS w wr p a len cap (.slice (some ad) ol oc) ts) := ⟨by omega, hD⟩
      clear hD
      go_wp2_with fail
      go_ret
      exact ⟨ad, ol, oc, ts, rfl, HE.out.1, by rw [HP.out]; exact HE.out.2⟩

end Go.Proofs.Ytjdhkhpdhblhbaa

/- What the law of sorting asks: two terms held against each other, two lists, how often one is there. -/
namespace Go.Proofs.Ytjdhkhpdhblhbaa
open Go.RowKit
set_option linter.unusedVariables false

theorem same2 (x y : Tm 2) (b : Bool) (hb : b = true ↔ x = y) (hx : SmT 2 x) (hy : SmT 2 y) (a1 : Option Addr) (l1 c1 : Nat) (a2 : Option Addr) (l2 c2 : Nat) (w : World) (h1 : RdL 1 w (.slice a1 l1 c1) x.L) (h2 : RdL 1 w (.slice a2 l2 c2) y.L) :
    Calls Try.prog 31 #[.agg #[.int .i64 x.K, .int .i64 x.N, .string x.S, .slice a1 l1 c1], .agg #[.int .i64 y.K, .int .i64 y.N, .string y.S, .slice a2 l2 c2]] w fun e w' => e = .returned (.bool b) ∧ Below w.heap.size w w' := by
  obtain ⟨hR, hC⟩ := roots2 h1 h2 hx hy
  refine (sameTerm_any _ _ _ a1 l1 c1 _ _ _ a2 l2 c2 _ _ _ w hR hC).mono ?_
  rintro e w' ⟨r, rfl, hr, hbl⟩
  have : r = b := Bool.eq_iff_iff.2 (hr.out.trans hb.symm)
  exact ⟨by rw [this], hbl⟩

theorem less2 (x y : Tm 2) (b : Bool) (hb : b = true ↔ Lt 2 x y) (hx : SmT 2 x) (hy : SmT 2 y) (a1 : Option Addr) (l1 c1 : Nat) (a2 : Option Addr) (l2 c2 : Nat) (w : World) (h1 : RdL 1 w (.slice a1 l1 c1) x.L) (h2 : RdL 1 w (.slice a2 l2 c2) y.L) :
    Calls Try.prog 32 #[.agg #[.int .i64 x.K, .int .i64 x.N, .string x.S, .slice a1 l1 c1], .agg #[.int .i64 y.K, .int .i64 y.N, .string y.S, .slice a2 l2 c2]] w fun e w' => e = .returned (.bool b) ∧ Below w.heap.size w w' := by
  obtain ⟨hR, hC⟩ := roots2 h1 h2 hx hy
  refine (lessTerm_any _ _ _ a1 l1 c1 _ _ _ a2 l2 c2 _ _ _ w hR hC).mono ?_
  rintro e w' ⟨r, rfl, hr, hbl⟩
  have : r = b := Bool.eq_iff_iff.2 (hr.out.trans hb.symm)
  exact ⟨by rw [this], hbl⟩

set_option maxRecDepth 100000 in
set_option maxHeartbeats 2000000 in
theorem sameTerms_any (v1 v2 : Value) (us : List (Tm 2)) (w : World) (h1 : RdL 2 w v1 us) (h2 : RdL 2 w v2 us) (hq : ∀ x ∈ us, SmT 2 x) (hn : us.length ≤ 100) :
    Calls Try.prog 30 #[v1, v2] w fun e w' => e = .returned (.bool true) ∧ Below w.heap.size w w' := by
  obtain ⟨a1, c1, rfl, e1⟩ := h1
  obtain ⟨a2, c2, rfl, e2⟩ := h2
  have HE1 : Hid _ := e1
  have HE2 : Hid _ := e2
  have HQ : Hid _ := hq
  obtain ⟨len, hl⟩ : ∃ len, us.length = len := ⟨_, rfl⟩
  have HL : Hid (us.length = len) := hl
  rw [hl] at hn ⊢
  clear e1 e2 hl hq
  go_enter Try.func30, Try.ntmps30
  go_wp2_with fail
  go_loopw [5] (fun i wr => ∃ k : Nat, k ≤ len ∧ i = .int .i64 k ∧ Below w.heap.size w wr) (fun i _ => len - (intOf i).toNat)
  case atStart => exact ⟨0, Nat.zero_le _, rfl, Below.refl _ _⟩
  case round =>
    obtain ⟨k, hk, rfl, hb⟩ := hrel
    by_cases hkl : k < len
    · obtain ⟨t, ht⟩ : ∃ t, us[k]? = some t := ⟨_, List.getElem?_eq_getElem (by rw [HL.out]; exact hkl)⟩
      obtain ⟨b, o, lv, rfl, hF, hR⟩ := HE1.out k t ht
      obtain ⟨b2, o2, lv2, rfl, hF2, hR2⟩ := HE2.out k t ht
      obtain ⟨la, ll, lc, rfl⟩ := hR.shape
      obtain ⟨la2, ll2, lc2, rfl⟩ := hR2.shape
      obtain ⟨f0, f1, f2, f3⟩ := hF.later hb
      obtain ⟨g0, g1, g2, g3⟩ := hF2.later hb
      have hsm := HQ.out t (List.mem_of_getElem? ht)
      have HC : Hid (∀ V : World, Below wr.heap.size wr V → _) := fun V hV => same2 t t true (by simp) hsm hsm la ll lc la2 ll2 lc2 V ((hR.later hb).later hV) ((hR2.later hb).later hV)
      have hkl' : (k : Int) < (len : Int) := by omega
      clear hF hF2 hR hR2 hsm ht
      have hn0 := After.some wr
      have p0 := After.cell f0
      have p1 := After.cell f1
      have p2 := After.cell f2
      have p3 := After.cell f3
      have q0 := After.cell g0
      have q1 := After.cell g1
      have q2 := After.cell g2
      have q3 := After.cell g3
      go_wp2_with fail
      refine wp_region_after (by kernel_rfl) (by kernel_rfl) ?_
      repeat (go_big_quiet_step ((go_at_call 31; exact calls_after (HC.out _ (After.bel _)))))
      refine wpQuiet_nil ?_
      rintro _ ⟨nq, rfl⟩
      have hb2 : Below w.heap.size w nq.now := hb.trans (nq.bel.mono hb.size)
      clear hb f0 f1 f2 f3 g0 g1 g2 g3 p0 p1 p2 p3 q0 q1 q2 q3 HC
      go_wp2
      go_roundw
      case rel => exact ⟨k + 1, by omega, by go_num, hb2⟩
      case measure => simp [intOf]; omega
    · go_wp2
      go_ret
      exact ⟨rfl, hb⟩

/-- How often. -/
theorem told_eq (x : Tm 2) : ∃ f : Tm 2 → Bool, ∀ y, f y = true ↔ y = x := by
  have h : ∀ y : Tm 2, ∃ b : Bool, b = true ↔ y = x := fun y => by
    by_cases h : y = x
    · exact ⟨true, by simp [h]⟩
    · exact ⟨false, by simp [h]⟩
  exact ⟨fun y => Classical.choose (h y), fun y => Classical.choose_spec (h y)⟩

theorem count_next {α : Type} (f : α → Bool) (l : List α) (k : Nat) (x : α) (h : l[k]? = some x) : (l.take (k + 1)).countP f = (l.take k).countP f + (if f x = true then 1 else 0) := by
  have hk := (List.getElem?_eq_some_iff.1 h)
  obtain ⟨h1, h2⟩ := hk
  rw [List.take_succ_eq_append_getElem h1, h2, List.countP_append, List.countP_singleton]

/-- What the law holds in hand: both rows. -/
structure SL (w Z : World) (gl cl gs cs n : Nat) (ts us : List (Tm 2)) (fl fs : List Nat) : Prop where
  ol : OwnL 2 Z (.slice (some ⟨gl, 0, none⟩) n cl) ts fl
  os : OwnL 2 Z (.slice (some ⟨gs, 0, none⟩) n cs) us fs
  b : Below w.heap.size w Z

theorem SL.later {w Z Z' : World} {gl cl gs cs n : Nat} {ts us : List (Tm 2)} {fl fs : List Nat} (h : SL w Z gl cl gs cs n ts us fl fs) (hb : Below Z.heap.size Z Z') : SL w Z' gl cl gs cs n ts us fl fs :=
  ⟨h.ol.frame fun g hg => hb.block g (h.ol.lt g hg), h.os.frame fun g hg => hb.block g (h.os.lt g hg), h.b.trans (hb.mono h.b.size)⟩

theorem own_head {d : Nat} {w : World} {ad : Addr} {l c : Nat} {ts : List (Tm (d + 1))} {fp : List Nat} (h : OwnL (d + 1) w (.slice (some ad) l c) ts fp) (hne : ts ≠ []) : ∃ g, ad = ⟨g, 0, none⟩ ∧ l = ts.length := by
  rcases h with ⟨e, _⟩ | ⟨g, c', cur, fps, h1, _⟩
  · exact absurd e hne
  · simp only [Value.slice.injEq, Option.some.injEq] at h1
    exact ⟨g, h1.1, h1.2.1⟩

theorem own_head' {d : Nat} {w : World} {a : Option Addr} {l c : Nat} {ts : List (Tm (d + 1))} {fp : List Nat} (h : OwnL (d + 1) w (.slice a l c) ts fp) (hne : ts ≠ []) : ∃ g, a = some ⟨g, 0, none⟩ ∧ l = ts.length := by
  rcases h with ⟨e, _⟩ | ⟨g, c', cur, fps, h1, _⟩
  · exact absurd e hne
  · simp only [Value.slice.injEq] at h1
    exact ⟨g, h1.1, h1.2.1⟩

theorem cnt_few : ∀ ts : List (Tm 2), (∀ x ∈ ts, SmT 2 x) → cntL 2 ts ≤ 4 * ts.length := by
  intro ts
  induction ts with
  | nil => intro _; exact Nat.zero_le _
  | cons t r ih =>
    intro h
    have h1 := ih fun x hx => h x (List.mem_cons_of_mem _ hx)
    have h2 := h t (List.mem_cons_self ..)
    have h3 := sm_cnt 1 t.L h2.2.2.2 h2.2.2.1
    have h4 : (4 : Nat) ^ 1 = 4 := by decide
    have h5 : cntL 2 (t :: r) = 1 + cntL 1 t.L + cntL 2 r := cntL_cons 1 t r
    rw [h5, List.length_cons]
    omega

end Go.Proofs.Ytjdhkhpdhblhbaa
