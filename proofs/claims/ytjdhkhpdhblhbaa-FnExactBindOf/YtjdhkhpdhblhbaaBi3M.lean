/- What a name is bound to: the program's and the model's. -/
import Derived.Test.YtjdhkhpdhblhbaaBi1M
import Derived.Test.YtjdhkhpdhblhbaaOw4M
import Derived.Test.YtjdhkhpdhblhbaaCpM
namespace Go.Proofs.Ytjdhkhpdhblhbaa
open Go.RowKit
set_option linter.unusedVariables false

/-- What the first bind of that name holds, or the zero term. -/
def FoundB {d : Nat} (bs : List (Bn d)) (nm : ByteArray) (k n : Int) (s : ByteArray) (ts : List (Tm d)) (ok : Bool) : Prop :=
  (ok = true ∧ ∃ (i : Nat) (b : Bn d), bs[i]? = some b ∧ b.nm = nm ∧ (∀ (j : Nat) (b' : Bn d), j < i → bs[j]? = some b' → ¬ b'.nm = nm) ∧ k = b.t.K ∧ n = b.t.N ∧ s = b.t.S ∧ ts = b.t.L) ∨
  (ok = false ∧ (∀ (i : Nat) (b : Bn d), bs[i]? = some b → ¬ b.nm = nm) ∧ k = 0 ∧ n = 0 ∧ s = ⟨#[]⟩ ∧ ts = [])

theorem FoundB.same {d : Nat} {bs : List (Bn d)} {nm : ByteArray} {k n k' n' : Int} {s s' : ByteArray} {ts ts' : List (Tm d)} {ok ok' : Bool} (h : FoundB bs nm k n s ts ok) (h' : FoundB bs nm k' n' s' ts' ok') : k = k' ∧ n = n' ∧ s = s' ∧ ts = ts' ∧ ok = ok' := by
  rcases h with ⟨rfl, i, b, h1, h2, h3, rfl, rfl, rfl, rfl⟩ | ⟨rfl, h1, rfl, rfl, rfl, rfl⟩ <;> rcases h' with ⟨rfl, i', b', g1, g2, g3, rfl, rfl, rfl, rfl⟩ | ⟨rfl, g1, rfl, rfl, rfl, rfl⟩
  · have : i = i' := by
      rcases Nat.lt_trichotomy i i' with q | q | q
      · exact absurd h2 (g3 i b q h1)
      · exact q
      · exact absurd g2 (h3 i' b' q g1)
    subst this
    rw [h1] at g1
    cases g1
    exact ⟨rfl, rfl, rfl, rfl, rfl⟩
  · exact absurd h2 (g1 i b h1)
  · exact absurd g2 (h1 i' b' g1)
  · exact ⟨rfl, rfl, rfl, rfl, rfl⟩

theorem found_next {d : Nat} {bs : List (Bn d)} {s : ByteArray} {k : Nat} {f : Bn d} (hf : bs[k]? = some f) (hn : ¬ f.nm = s) (h : ∀ (j : Nat) (g : Bn d), j < k → bs[j]? = some g → ¬ g.nm = s) : ∀ (j : Nat) (g : Bn d), j < k + 1 → bs[j]? = some g → ¬ g.nm = s := fun j g hj hg => by
  rcases Nat.lt_or_ge j k with q | q
  · exact h j g q hg
  · obtain rfl : j = k := by omega
    rw [hf] at hg
    cases hg
    exact hn
theorem found_none {d : Nat} {bs : List (Bn d)} {s : ByteArray} {k : Nat} (hk : bs.length ≤ k) (h : ∀ (j : Nat) (g : Bn d), j < k → bs[j]? = some g → ¬ g.nm = s) : FoundB bs s 0 0 ⟨#[]⟩ [] false :=
  .inr ⟨rfl, fun i b hb => h i b (Nat.lt_of_lt_of_le (List.getElem?_eq_some_iff.1 hb).1 hk) hb, rfl, rfl, rfl, rfl⟩

theorem str_same' {a b : ByteArray} (h : a.toList = b.toList) : a = b := by
  rw [ByteArray.toList_eq, ByteArray.toList_eq] at h
  exact ByteArray.ext (Array.toList_inj.mp h)

/-- A bind as the program reads it. -/
def BnQ (d : Nat) (w : World) (vs : List Value) (b : Bn d) : Prop := ∃ lv, vs = [.string b.nm, .int .i64 b.t.K, .int .i64 b.t.N, .string b.t.S, lv] ∧ RdQ d w lv b.t.L
theorem BnQ.lasts (d : Nat) : Lasts (BnQ d) := by
  rintro w w' vs b ⟨lv, rfl, h⟩ hb
  exact ⟨lv, rfl, h.later hb⟩
theorem BnO.readsQ (d : Nat) : Reads (BnO d) (BnQ d) := by
  rintro w vs b fp ⟨lv, rfl, h⟩
  exact ⟨lv, rfl, h.rdq⟩

theorem bind_cells {d : Nat} {w : World} {a : Option Addr} {n c : Nat} {bs : List (Bn d)} (h : RowOf 5 (BnQ d) w (.slice a n c) bs) (i : Nat) (x : Bn d) (hx : bs[i]? = some x) :
    ∃ b o la ll lc, a = some ⟨b, o, none⟩ ∧ w.cell? ⟨b, o + i * 5, none⟩ = some (.string x.nm) ∧ w.cell? ⟨b, o + i * 5 + 1, none⟩ = some (.int .i64 x.t.K) ∧ w.cell? ⟨b, o + i * 5 + 2, none⟩ = some (.int .i64 x.t.N) ∧ w.cell? ⟨b, o + i * 5 + 3, none⟩ = some (.string x.t.S) ∧ w.cell? ⟨b, o + i * 5 + 4, none⟩ = some (.slice la ll lc) ∧ RdQ d w (.slice la ll lc) x.t.L := by
  obtain ⟨a', c', e, hel⟩ := h
  cases e
  obtain ⟨b, o, vs, h2, h3, h4, lv, rfl, h5⟩ := hel i x hx
  obtain ⟨la, lc, rfl⟩ := h5.len
  exact ⟨b, o, la, _, lc, h2, h4 0 _ rfl, h4 1 _ rfl, h4 2 _ rfl, h4 3 _ rfl, h4 4 _ rfl, h5⟩

theorem bind_cellsR {d : Nat} {w : World} {a : Option Addr} {n c : Nat} {bs : List (Bn d)} (h : RowOf 5 (BnR d) w (.slice a n c) bs) (i : Nat) (x : Bn d) (hx : bs[i]? = some x) :
    ∃ b o la ll lc, a = some ⟨b, o, none⟩ ∧ w.cell? ⟨b, o + i * 5, none⟩ = some (.string x.nm) ∧ w.cell? ⟨b, o + i * 5 + 1, none⟩ = some (.int .i64 x.t.K) ∧ w.cell? ⟨b, o + i * 5 + 2, none⟩ = some (.int .i64 x.t.N) ∧ w.cell? ⟨b, o + i * 5 + 3, none⟩ = some (.string x.t.S) ∧ w.cell? ⟨b, o + i * 5 + 4, none⟩ = some (.slice la ll lc) ∧ RdL d w (.slice la ll lc) x.t.L := by
  obtain ⟨a', c', e, hel⟩ := h
  cases e
  obtain ⟨b, o, vs, h2, h3, h4, lv, rfl, h5⟩ := hel i x hx
  obtain ⟨la, ll, lc, rfl⟩ := h5.shape
  exact ⟨b, o, la, ll, lc, h2, h4 0 _ rfl, h4 1 _ rfl, h4 2 _ rfl, h4 3 _ rfl, h4 4 _ rfl, h5⟩

/-- What comes back of boundTo. -/
def BoundRes (d : Nat) (bs : List (Bn d)) (nm : ByteArray) (w : World) (e : Ending) (w' : World) : Prop := ∃ k n s a l c ts ok, e = .returned (.tuple #[.agg #[.int .i64 k, .int .i64 n, .string s, .slice a l c], .bool ok]) ∧ FoundB bs nm k n s ts ok ∧ RdQ d w' (.slice a l c) ts ∧ Below w.heap.size w w'

theorem rdq_nil (d : Nat) (w : World) : RdQ d w (.slice none 0 0) ([] : List (Tm d)) := (own_nothing d w).rdq

set_option maxRecDepth 100000 in
set_option maxHeartbeats 1000000 in
theorem boundTo_any (d : Nat) (v : Value) (bs : List (Bn d)) (s : ByteArray) (w : World) (hr : RowOf 5 (BnQ d) w v bs) (hl1 : bs.length ≤ 1048576) :
    Calls Try.prog 43 #[v, .string s] w fun e w' => BoundRes d bs s w e w' := by
  obtain ⟨a, c, e⟩ := hr.slice
  subst e
  have HE : Hid (∀ (i : Nat) (x : Bn d), bs[i]? = some x → _) := bind_cells hr
  obtain ⟨len, hl⟩ : ∃ l, bs.length = l := ⟨_, rfl⟩
  have HL : Hid (bs.length = len) := hl
  rw [hl] at hl1 ⊢
  clear hr hl
  obtain ⟨W, hW⟩ : ∃ W, W = w.alloc (.cells #[.int .i64 0, .int .i64 0, .string ⟨#[]⟩, .slice none 0 0] 29) := ⟨_, rfl⟩
  have HA : Hid (Below w.heap.size w W) := by rw [hW]; exact (Below.refl _ _).alloc (Nat.le_refl _) _
  have hn : W.heap[w.heap.size]? = some (.cells #[.int .i64 0, .int .i64 0, .string ⟨#[]⟩, .slice none 0 0] 29 (0, 0)) := by rw [hW]; exact heap_alloc_new w _
  have b0 : W.cell? ⟨w.heap.size, 0, none⟩ = some (.int .i64 0) := by rw [cell_of_row W _ 0 _ _ _ hn]; rfl
  have b1 : W.cell? ⟨w.heap.size, 1, none⟩ = some (.int .i64 0) := by rw [cell_of_row W _ 1 _ _ _ hn]; rfl
  have b2 : W.cell? ⟨w.heap.size, 2, none⟩ = some (.string ⟨#[]⟩) := by rw [cell_of_row W _ 2 _ _ _ hn]; rfl
  have b3 : W.cell? ⟨w.heap.size, 3, none⟩ = some (.slice none 0 0) := by rw [cell_of_row W _ 3 _ _ _ hn]; rfl
  have y0 : W.frozen? ⟨w.heap.size, 0, none⟩ = false := frozen_of_row W _ _ _ _ hn
  have y1 : W.frozen? ⟨w.heap.size, 1, none⟩ = false := frozen_of_row W _ _ _ _ hn
  have y2 : W.frozen? ⟨w.heap.size, 2, none⟩ = false := frozen_of_row W _ _ _ _ hn
  have y3 : W.frozen? ⟨w.heap.size, 3, none⟩ = false := frozen_of_row W _ _ _ _ hn
  have hbl : ∀ Z : World, Kept w.heap.size (w.heap.size + 1) W Z → Below w.heap.size w Z := fun Z hZ => HA.out.trans (hZ.below (Nat.le_refl _) HA.out.size)
  have HBL : Hid _ := hbl
  clear hn hbl
  go_enter Try.func43, Try.ntmps43
  go_wp2_with fail
  rw [← hW]
  clear hW
  go_loopw [9] (fun i wr => ∃ k : Nat, k ≤ len ∧ i = .int .i64 k ∧ wr = W ∧ Hid (∀ (j : Nat) (g : Bn d), j < k → bs[j]? = some g → ¬ g.nm = s)) (fun i _ => len - (intOf i).toNat)
  case atStart => exact ⟨0, Nat.zero_le _, rfl, rfl, fun j g hj => absurd hj (Nat.not_lt_zero _)⟩
  case round =>
    obtain ⟨k, hk, rfl, rfl, HN⟩ := hrel
    by_cases hkl : k < len
    · obtain ⟨t, ht⟩ : ∃ t, bs[k]? = some t := ⟨_, List.getElem?_eq_getElem (by have := HL.out; omega)⟩
      obtain ⟨b, o, la, ll, lc, rfl, f0, f1, f2, f3, f4, fr⟩ := HE.out k t ht
      have g0 := cell_later HA.out f0
      have g1 := cell_later HA.out f1
      have g2 := cell_later HA.out f2
      have g3 := cell_later HA.out f3
      have g4 := cell_later HA.out f4
      have hbz : b < w.heap.size := by have := World.block_lt_of_cell? w _ f0; simpa using this
      have hkl' : (k : Int) < (len : Int) := by omega
      have HT : Hid (bs[k]? = some t ∧ RdQ d w (.slice la ll lc) t.t.L) := ⟨ht, fr⟩
      obtain ⟨nm, hnm⟩ : ∃ x, t.nm = x := ⟨_, rfl⟩
      have HNM : Hid (t.nm = nm) := hnm
      rw [hnm] at g0
      clear f0 f1 f2 f3 f4 ht hnm fr
      by_cases hs : nm = s
      · have hs' : (nm.toList == s.toList) = true := by rw [hs]; simp
        have HF : Hid (FoundB bs s t.t.K t.t.N t.t.S t.t.L true) := .inl ⟨rfl, k, t, HT.out.1, HNM.out.trans hs, HN.out, rfl, rfl, rfl, rfl⟩
        clear HN hs
        go_wp2_with fail
        refine bodyPost_ret (v := .tuple #[.agg #[.int .i64 t.t.K, .int .i64 t.t.N, .string t.t.S, .slice la ll lc], .bool true]) (by first | (simp [results, Try.results43, go_sem, b0, b1, b2, b3]; done) | (simp [results, Try.results43, go_sem, b0, b1, b2, b3]; rfl)) rfl ?_
        refine (fun hZ => ⟨_, _, _, _, _, _, _, _, rfl, HF.out, HT.out.2.later hZ, hZ⟩ : Below w.heap.size w _ → BoundRes d bs s w _ _) (HBL.out _ ?_)
        repeat (first | with_reducible exact Kept.refl _ _ _ | with_reducible refine Kept.drew ?_ | (with_reducible refine Kept.set ?_ ?_; omega))
      · have hs' : (nm.toList == s.toList) = false := by rw [beq_eq_false_iff_ne]; exact fun e => hs (str_same' e)
        have HF : Hid (∀ (j : Nat) (g : Bn d), j < k + 1 → bs[j]? = some g → ¬ g.nm = s) := found_next HT.out.1 (by rw [HNM.out]; exact hs) HN.out
        clear HN hs
        go_wp2_with fail
        go_roundw
        case rel => exact ⟨k + 1, by omega, by go_num, trivial, HF⟩
        case measure => simp [intOf]; omega
    · obtain rfl : k = len := by omega
      have hkl' : decide ((k : Int) < (k : Int)) = false := by simp
      have HF : Hid (FoundB bs s 0 0 ⟨#[]⟩ [] false) := found_none (by rw [HL.out]; exact Nat.le_refl _) HN.out
      clear HN
      go_wp2_with fail
      refine bodyPost_ret (v := .tuple #[.agg #[.int .i64 0, .int .i64 0, .string ⟨#[]⟩, .slice none 0 0], .bool false]) (by first | (simp [results, Try.results43, go_sem, b0, b1, b2, b3]; done) | (simp [results, Try.results43, go_sem, b0, b1, b2, b3]; rfl)) rfl ?_
      refine (fun hZ => ⟨_, _, _, _, _, _, _, _, rfl, HF.out, rdq_nil d _, hZ⟩ : Below w.heap.size w _ → BoundRes d bs s w _ _) (HBL.out _ ?_)
      repeat (first | with_reducible exact Kept.refl _ _ _ | with_reducible refine Kept.drew ?_ | (with_reducible refine Kept.set ?_ ?_; omega))

end Go.Proofs.Ytjdhkhpdhblhbaa

/- BindOf: the program's and the model's. -/
namespace Go.Proofs.Ytjdhkhpdhblhbaa
open Go.RowKit
set_option linter.unusedVariables false

/-- What comes back of BindOf: the term, in memory of one's own. -/
def BindRes (d : Nat) (bs : List (Bn d)) (nm : ByteArray) (w : World) (e : Ending) (w' : World) : Prop := ∃ k n s a l c ts fp ok, e = .returned (.tuple #[.agg #[.int .i64 k, .int .i64 n, .string s, .slice a l c], .bool ok]) ∧ FoundB bs nm k n s ts ok ∧ OwnL d w' (.slice a l c) ts fp ∧ Fresh w.heap.size w' fp ∧ Below w.heap.size w w'

theorem FoundB.cnt {d : Nat} {bs : List (Bn d)} {nm : ByteArray} {k n : Int} {s : ByteArray} {ts : List (Tm d)} {ok : Bool} {C : Nat} (h : FoundB bs nm k n s ts ok) (hc : ∀ (i : Nat) (b : Bn d), bs[i]? = some b → cntL d b.t.L ≤ C) : cntL d ts ≤ C := by
  rcases h with ⟨_, i, b, h1, _, _, _, _, _, rfl⟩ | ⟨_, _, _, _, _, rfl⟩
  · exact hc i b h1
  · rw [cntL_nil]; exact Nat.zero_le _

set_option maxRecDepth 100000 in
set_option maxHeartbeats 1000000 in
theorem bindOf_any (d : Nat) (v : Value) (bs : List (Bn d)) (s : ByteArray) (w : World) (hr : RowOf 5 (BnQ d) w v bs) (hl1 : bs.length ≤ 1048576) (hc : ∀ (i : Nat) (b : Bn d), bs[i]? = some b → cntL d b.t.L ≤ 1048576) :
    Calls Try.prog 23 #[v, .string s] w fun e w' => BindRes d bs s w e w' := by
  obtain ⟨W, hW⟩ : ∃ W, W = w.alloc (.cells #[.int .i64 0, .int .i64 0, .string ⟨#[]⟩, .slice none 0 0] 29) := ⟨_, rfl⟩
  have hA : Below w.heap.size w W := by rw [hW]; exact (Below.refl _ _).alloc (Nat.le_refl _) _
  have hn : W.heap[w.heap.size]? = some (.cells #[.int .i64 0, .int .i64 0, .string ⟨#[]⟩, .slice none 0 0] 29 (0, 0)) := by rw [hW]; exact heap_alloc_new w _
  have hC := boundTo_any d v bs s W (hr.later (BnQ.lasts d) hA) hl1
  obtain ⟨a, c, e⟩ := hr.slice
  subst e
  obtain ⟨len, hl⟩ : ∃ l, bs.length = l := ⟨_, rfl⟩
  rw [hl] at hC ⊢
  have HC : Hid _ := hc
  rw [hW] at hC
  have HW : Hid (W = _) := hW
  clear hr hl hc hl1 hW
  go_enter Try.func23, Try.ntmps23
  go_wp2_with fail
  refine hC.mono ?_
  clear hC
  rw [← HW.out]
  rintro e w1 ⟨k, n, sx, a1, l1, c1, ts, ok, rfl, hF, hR, hb1⟩
  have hn1 := (hb1.block _ (lt_row hn)).trans hn
  obtain ⟨W2, hW2⟩ : ∃ X, X = w1.alloc (.cells #[.int .i64 k, .int .i64 n, .string sx, .slice a1 l1 c1] 29) := ⟨_, rfl⟩
  have hA2 : Below w1.heap.size w1 W2 := by rw [hW2]; exact (Below.refl _ _).alloc (Nat.le_refl _) _
  have hD := ownTerm_any d k n sx (.slice a1 l1 c1) ts W2 (hR.later hA2) (by have := hF.cnt HC.out; omega)
  rw [hW2] at hD
  have HF : Hid (FoundB bs s k n sx ts ok) := hF
  have HB : Hid (Below w.heap.size w W2 ∧ w.heap.size < W2.heap.size ∧ W2.heap[w.heap.size]? = some (.cells #[.int .i64 0, .int .i64 0, .string ⟨#[]⟩, .slice none 0 0] 29 (0, 0))) := by
    have h1 : Below w.heap.size w w1 := hA.trans (hb1.mono hA.size)
    have h2 := (hA2.block _ (lt_row hn1)).trans hn1
    exact ⟨h1.trans (hA2.mono h1.size), lt_row h2, h2⟩
  have HW2 : Hid (W2 = _) := hW2
  clear hF hR hb1 hn1 hW2 hA2 hA hn HC HW
  go_wp2_with fail
  refine hD.mono ?_
  clear hD
  rw [← HW2.out]
  rintro e w3 ⟨a3, l3, c3, fp, rfl, HO, hb3⟩
  have hn3 := (hb3.block _ HB.out.2.1).trans HB.out.2.2
  have b0 : w3.cell? ⟨w.heap.size, 0, none⟩ = some (.int .i64 0) := by rw [cell_of_row w3 _ 0 _ _ _ hn3]; rfl
  have b1 : w3.cell? ⟨w.heap.size, 1, none⟩ = some (.int .i64 0) := by rw [cell_of_row w3 _ 1 _ _ _ hn3]; rfl
  have b2 : w3.cell? ⟨w.heap.size, 2, none⟩ = some (.string ⟨#[]⟩) := by rw [cell_of_row w3 _ 2 _ _ _ hn3]; rfl
  have b3 : w3.cell? ⟨w.heap.size, 3, none⟩ = some (.slice none 0 0) := by rw [cell_of_row w3 _ 3 _ _ _ hn3]; rfl
  have y0 : w3.frozen? ⟨w.heap.size, 0, none⟩ = false := frozen_of_row w3 _ _ _ _ hn3
  have y1 : w3.frozen? ⟨w.heap.size, 1, none⟩ = false := frozen_of_row w3 _ _ _ _ hn3
  have y2 : w3.frozen? ⟨w.heap.size, 2, none⟩ = false := frozen_of_row w3 _ _ _ _ hn3
  have y3 : w3.frozen? ⟨w.heap.size, 3, none⟩ = false := frozen_of_row w3 _ _ _ _ hn3
  have HFIN : Hid (∀ Z, Kept w.heap.size (w.heap.size + 1) w3 Z → BindRes d bs s w (.returned (.tuple #[.agg #[.int .i64 k, .int .i64 n, .string sx, .slice a3 l3 c3], .bool ok])) Z) := fun Z hZ => by
    have hbw3 : Below w.heap.size w w3 := HB.out.1.trans (hb3.mono HB.out.1.size)
    have hzZ := hZ.size
    have hlt := HB.out.2.1
    refine ⟨_, _, _, _, _, _, _, fp, _, rfl, HF.out, HO.out.1.frame fun g hg => ?_, ⟨HO.out.2.1, fun g hg => ?_⟩, hbw3.trans (hZ.below (Nat.le_refl _) hbw3.size)⟩
    · have := HO.out.2.2 g hg
      exact hZ.block g this.2 (.inr (by omega))
    · have := HO.out.2.2 g hg
      omega
  clear hn3 hb3 HO HB HF HW2
  go_wp2_with fail
  refine bodyPost_ret (v := .tuple #[.agg #[.int .i64 k, .int .i64 n, .string sx, .slice a3 l3 c3], .bool ok]) (by first | (simp [results, Try.results23, go_sem, b0, b1, b2, b3]; done) | (simp [results, Try.results23, go_sem, b0, b1, b2, b3]; rfl)) rfl (HFIN.out _ ?_)
  repeat (first | with_reducible exact Kept.refl _ _ _ | with_reducible refine Kept.drew ?_ | (with_reducible refine Kept.set ?_ ?_; omega))

set_option maxRecDepth 100000 in
set_option maxHeartbeats 1000000 in
theorem specBindOf_any (d : Nat) (v : Value) (bs : List (Bn d)) (s : ByteArray) (w : World) (hr : RowOf 5 (BnR d) w v bs) (hl1 : bs.length ≤ 1048576) (hw : ∀ (i : Nat) (b : Bn d), bs[i]? = some b → WfL d b.t.L ∧ FewL d b.t.L) :
    Calls Try.prog 21 #[v, .string s] w fun e w' => BindRes d bs s w e w' := by
  obtain ⟨a, c, e⟩ := hr.slice
  subst e
  have HE : Hid (∀ (i : Nat) (x : Bn d), bs[i]? = some x → _) := bind_cellsR hr
  have HWF : Hid _ := hw
  obtain ⟨len, hl⟩ : ∃ l, bs.length = l := ⟨_, rfl⟩
  have HL : Hid (bs.length = len) := hl
  rw [hl] at hl1 ⊢
  clear hr hl hw
  obtain ⟨W, hW⟩ : ∃ W, W = w.alloc (.cells #[.int .i64 0, .int .i64 0, .string ⟨#[]⟩, .slice none 0 0] 29) := ⟨_, rfl⟩
  have HA : Hid (Below w.heap.size w W) := by rw [hW]; exact (Below.refl _ _).alloc (Nat.le_refl _) _
  have hn : W.heap[w.heap.size]? = some (.cells #[.int .i64 0, .int .i64 0, .string ⟨#[]⟩, .slice none 0 0] 29 (0, 0)) := by rw [hW]; exact heap_alloc_new w _
  have HNW : Hid (W.heap[w.heap.size]? = some (.cells #[.int .i64 0, .int .i64 0, .string ⟨#[]⟩, .slice none 0 0] 29 (0, 0))) := hn
  clear hn
  go_enter Try.func21, Try.ntmps21
  go_wp2_with fail
  rw [← hW]
  clear hW
  go_loopw [6] (fun i wr => ∃ k : Nat, k ≤ len ∧ i = .int .i64 k ∧ wr = W ∧ Hid (∀ (j : Nat) (g : Bn d), j < k → bs[j]? = some g → ¬ g.nm = s)) (fun i _ => len - (intOf i).toNat)
  case atStart => exact ⟨0, Nat.zero_le _, rfl, rfl, fun j g hj => absurd hj (Nat.not_lt_zero _)⟩
  case round =>
    obtain ⟨k, hk, rfl, rfl, HN⟩ := hrel
    by_cases hkl : k < len
    · obtain ⟨t, ht⟩ : ∃ t, bs[k]? = some t := ⟨_, List.getElem?_eq_getElem (by have := HL.out; omega)⟩
      obtain ⟨b, o, la, ll, lc, rfl, f0, f1, f2, f3, f4, fr⟩ := HE.out k t ht
      have g0 := cell_later HA.out f0
      have g1 := cell_later HA.out f1
      have g2 := cell_later HA.out f2
      have g3 := cell_later HA.out f3
      have g4 := cell_later HA.out f4
      have hkl' : (k : Int) < (len : Int) := by omega
      have HT : Hid (bs[k]? = some t) := ht
      have hCP := l2Copy_any d t.t.K t.t.N t.t.S _ t.t.L wr (fr.later HA.out) (HWF.out k t ht).1 (HWF.out k t ht).2
      obtain ⟨nm, hnm⟩ : ∃ x, t.nm = x := ⟨_, rfl⟩
      have HNM : Hid (t.nm = nm) := hnm
      rw [hnm] at g0
      clear f0 f1 f2 f3 f4 ht hnm fr
      by_cases hs : nm = s
      · have hs' : (nm.toList == s.toList) = true := by rw [hs]; simp
        have HF : Hid (FoundB bs s t.t.K t.t.N t.t.S t.t.L true) := .inl ⟨rfl, k, t, HT.out, HNM.out.trans hs, HN.out, rfl, rfl, rfl, rfl⟩
        clear HN hs
        go_wp2_with fail
        refine hCP.mono ?_
        clear hCP g0 g1 g2 g3 g4
        rintro e w3 ⟨a3, l3, c3, fp0, rfl, HM, hb3⟩
        obtain ⟨a4, l4, c4, fp, e4, O1, O2, _⟩ := HM.out.own
        cases e4
        have hn3 := (hb3.block _ (lt_row HNW.out)).trans HNW.out
        have b0 : w3.cell? ⟨w.heap.size, 0, none⟩ = some (.int .i64 0) := by rw [cell_of_row w3 _ 0 _ _ _ hn3]; rfl
        have b1 : w3.cell? ⟨w.heap.size, 1, none⟩ = some (.int .i64 0) := by rw [cell_of_row w3 _ 1 _ _ _ hn3]; rfl
        have b2 : w3.cell? ⟨w.heap.size, 2, none⟩ = some (.string ⟨#[]⟩) := by rw [cell_of_row w3 _ 2 _ _ _ hn3]; rfl
        have b3 : w3.cell? ⟨w.heap.size, 3, none⟩ = some (.slice none 0 0) := by rw [cell_of_row w3 _ 3 _ _ _ hn3]; rfl
        have y0 : w3.frozen? ⟨w.heap.size, 0, none⟩ = false := frozen_of_row w3 _ _ _ _ hn3
        have y1 : w3.frozen? ⟨w.heap.size, 1, none⟩ = false := frozen_of_row w3 _ _ _ _ hn3
        have y2 : w3.frozen? ⟨w.heap.size, 2, none⟩ = false := frozen_of_row w3 _ _ _ _ hn3
        have y3 : w3.frozen? ⟨w.heap.size, 3, none⟩ = false := frozen_of_row w3 _ _ _ _ hn3
        have hlt := lt_row HNW.out
        have HFIN : Hid (∀ Z, Kept w.heap.size (w.heap.size + 1) w3 Z → BindRes d bs s w (.returned (.tuple #[.agg #[.int .i64 t.t.K, .int .i64 t.t.N, .string t.t.S, .slice a3 l3 c3], .bool true])) Z) := fun Z hZ => by
          have hbw3 : Below w.heap.size w w3 := HA.out.trans (hb3.mono HA.out.size)
          have hzZ := hZ.size
          refine ⟨_, _, _, _, _, _, _, fp, _, rfl, HF.out, O1.frame fun g hg => ?_, ⟨O2.1, fun g hg => ?_⟩, hbw3.trans (hZ.below (Nat.le_refl _) hbw3.size)⟩
          · have := O2.2 g hg
            exact hZ.block g this.2 (.inr (by omega))
          · have := O2.2 g hg
            omega
        clear hn3 hb3 O1 O2 HM
        go_wp2_with fail
        refine bodyPost_ret (v := .tuple #[.agg #[.int .i64 t.t.K, .int .i64 t.t.N, .string t.t.S, .slice a3 l3 c3], .bool true]) (by first | (simp [results, Try.results21, go_sem, b0, b1, b2, b3]; done) | (simp [results, Try.results21, go_sem, b0, b1, b2, b3]; rfl)) rfl (HFIN.out _ ?_)
        repeat (first | with_reducible exact Kept.refl _ _ _ | with_reducible refine Kept.drew ?_ | (with_reducible refine Kept.set ?_ ?_; omega))
      · have hs' : (nm.toList == s.toList) = false := by rw [beq_eq_false_iff_ne]; exact fun e => hs (str_same' e)
        have HF : Hid (∀ (j : Nat) (g : Bn d), j < k + 1 → bs[j]? = some g → ¬ g.nm = s) := found_next HT.out (by rw [HNM.out]; exact hs) HN.out
        clear HN hs hCP
        go_wp2_with fail
        go_roundw
        case rel => exact ⟨k + 1, by omega, by go_num, trivial, HF⟩
        case measure => simp [intOf]; omega
    · obtain rfl : k = len := by omega
      have hkl' : decide ((k : Int) < (k : Int)) = false := by simp
      have HF : Hid (FoundB bs s 0 0 ⟨#[]⟩ [] false) := found_none (by rw [HL.out]; exact Nat.le_refl _) HN.out
      clear HN
      have hn3 := HNW.out
      have b0 : wr.cell? ⟨w.heap.size, 0, none⟩ = some (.int .i64 0) := by rw [cell_of_row wr _ 0 _ _ _ hn3]; rfl
      have b1 : wr.cell? ⟨w.heap.size, 1, none⟩ = some (.int .i64 0) := by rw [cell_of_row wr _ 1 _ _ _ hn3]; rfl
      have b2 : wr.cell? ⟨w.heap.size, 2, none⟩ = some (.string ⟨#[]⟩) := by rw [cell_of_row wr _ 2 _ _ _ hn3]; rfl
      have b3 : wr.cell? ⟨w.heap.size, 3, none⟩ = some (.slice none 0 0) := by rw [cell_of_row wr _ 3 _ _ _ hn3]; rfl
      have y0 : wr.frozen? ⟨w.heap.size, 0, none⟩ = false := frozen_of_row wr _ _ _ _ hn3
      have y1 : wr.frozen? ⟨w.heap.size, 1, none⟩ = false := frozen_of_row wr _ _ _ _ hn3
      have y2 : wr.frozen? ⟨w.heap.size, 2, none⟩ = false := frozen_of_row wr _ _ _ _ hn3
      have y3 : wr.frozen? ⟨w.heap.size, 3, none⟩ = false := frozen_of_row wr _ _ _ _ hn3
      have HFIN : Hid (∀ Z, Kept w.heap.size (w.heap.size + 1) wr Z → BindRes d bs s w (.returned (.tuple #[.agg #[.int .i64 0, .int .i64 0, .string ⟨#[]⟩, .slice none 0 0], .bool false])) Z) := fun Z hZ =>
        ⟨_, _, _, _, _, _, _, [], _, rfl, HF.out, own_nothing d Z, ⟨List.nodup_nil, fun g hg => by simp at hg⟩, HA.out.trans (hZ.below (Nat.le_refl _) HA.out.size)⟩
      clear hn3
      go_wp2_with fail
      refine bodyPost_ret (v := .tuple #[.agg #[.int .i64 0, .int .i64 0, .string ⟨#[]⟩, .slice none 0 0], .bool false]) (by first | (simp [results, Try.results21, go_sem, b0, b1, b2, b3]; done) | (simp [results, Try.results21, go_sem, b0, b1, b2, b3]; rfl)) rfl (HFIN.out _ ?_)
      repeat (first | with_reducible exact Kept.refl _ _ _ | with_reducible refine Kept.drew ?_ | (with_reducible refine Kept.set ?_ ?_; omega))

end Go.Proofs.Ytjdhkhpdhblhbaa
