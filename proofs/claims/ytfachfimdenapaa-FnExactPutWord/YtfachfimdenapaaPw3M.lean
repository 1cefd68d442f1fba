/- A word behind those that wait: the queue's put. -/
import Derived.Test.YtfachfimdenapaaPw0M
import Derived.Test.YtfachfimdenapaaPw2M
namespace Go.Proofs.Ytfachfimdenapaa
open Go.RowKit
set_option linter.unusedVariables false

theorem row_rdq {d B n : Nat} {w : World} {v : Value} {ts : List (Tm (d + 1))} {cells : List Value} (h : w.ownsRow B 31 4 v n cells) (hn : ts.length = n) (hc : ∀ (i : Nat) (t : Tm (d + 1)), ts[i]? = some t → ∃ lv, cells[i * 4]? = some (.int .i64 t.K) ∧ cells[i * 4 + 1]? = some (.int .i64 t.N) ∧ cells[i * 4 + 2]? = some (.string t.S) ∧ cells[i * 4 + 3]? = some lv ∧ RdQ d w lv t.L) : RdQ (d + 1) w v ts := by
  subst hn
  rcases h.2 with ⟨rfl, h2⟩ | ⟨g, cap, cur, rfl, h2, h3, h4, h5, h6, h7⟩
  · exact ⟨none, 0, by rw [h2], fun i t ht => by rw [List.length_eq_zero_iff.1 h2] at ht; simp at ht⟩
  · refine ⟨_, cap, rfl, fun i t ht => ?_⟩
    obtain ⟨lv, e0, e1, e2, e3, e4⟩ := hc i t ht
    have hcell : ∀ j u, cells[j]? = some u → w.cell? ⟨g, j, none⟩ = some u := fun j u hu => by
      rw [cell_of_row w g j cur _ _ h3, ← Array.getElem?_toList]
      exact take_at h7 hu
    exact ⟨g, 0, lv, rfl, ⟨_, _, h3⟩, ⟨by rw [Nat.zero_add]; exact hcell _ _ e0, by rw [Nat.zero_add]; exact hcell _ _ e1, by rw [Nat.zero_add]; exact hcell _ _ e2, by rw [Nat.zero_add]; exact hcell _ _ e3⟩, e4⟩

/-- What comes of it. -/
def PutRes {d : Nat} (ts : List (Tm (d + 1))) (t : Tm (d + 1)) (n : Nat) (w0 w : World) (e : Ending) (w' : World) : Prop := ∃ (a : Option Addr) (m c : Nat) (b : Bool), e = .returned (.tuple #[.slice a m c, .bool b]) ∧ Hid ((b = true ∧ n < 20 ∧ ∃ g, w.heap.size ≤ g ∧ g < w'.heap.size ∧ ∀ V : World, Below w0.heap.size w0 V → V.heap[g]? = w'.heap[g]? → RdQ (d + 1) V (.slice a m c) (ts ++ [t])) ∨ (b = false ∧ 20 ≤ n ∧ ∀ V : World, Below w0.heap.size w0 V → RdQ (d + 1) V (.slice a m c) ts)) ∧ Below w.heap.size w w'

set_option maxRecDepth 100000 in
set_option maxHeartbeats 4000000 in
theorem put_any (d : Nat) (a al : Option Addr) (n c ll lc : Nat) (ts : List (Tm (d + 1))) (t : Tm (d + 1)) (w0 w : World) (hr : RdQ (d + 1) w0 (.slice a n c) ts) (hl : RdQ d w0 (.slice al ll lc) t.L) (h0 : Below w0.heap.size w0 w) (hn : ts.length = n) (h63 : n ≤ 9223372036854775807) :
    Calls Try.prog 36 #[.slice a n c, .agg #[.int .i64 t.K, .int .i64 t.N, .string t.S, .slice al ll lc], .int .i64 20] w fun e w' => PutRes ts t n w0 w e w' := by
  obtain ⟨W1, hW1⟩ : ∃ W, W = w.alloc (.cells #[.int .i64 t.K, .int .i64 t.N, .string t.S, .slice al ll lc] 31) := ⟨_, rfl⟩
  have b1 : Below w.heap.size w W1 := by rw [hW1]; exact (Below.refl _ _).alloc (Nat.le_refl _) _
  by_cases h20 : n < 20
  · obtain ⟨W2, hW2⟩ : ∃ W, W = W1.alloc (.cells #[.int .i64 t.K, .int .i64 t.N, .string t.S, .slice al ll lc] 31) := ⟨_, rfl⟩
    obtain ⟨W3, hW3⟩ : ∃ W, W = W2.alloc (.cells #[.slice a n c, .slice (some ⟨w.heap.size + 1, 0, none⟩) 1 1] 60) := ⟨_, rfl⟩
    have s1 : W1.heap.size = w.heap.size + 1 := by rw [hW1]; simp
    have s2 : W2.heap.size = w.heap.size + 1 + 1 := by rw [hW2]; simp [s1]
    have b2 : Below W1.heap.size W1 W2 := by rw [hW2]; exact (Below.refl _ _).alloc (Nat.le_refl _) _
    have b3 : Below W2.heap.size W2 W3 := by rw [hW3]; exact (Below.refl _ _).alloc (Nat.le_refl _) _
    have bw : Below w.heap.size w W3 := b1.trans ((b2.trans (b3.mono b2.size)).mono b1.size)
    have n1 : W3.heap[w.heap.size + 1]? = some (.cells #[.int .i64 t.K, .int .i64 t.N, .string t.S, .slice al ll lc] 31 (0, 0)) := by
      refine (b3.block _ (by omega)).trans ?_
      rw [hW2, ← s1]; exact heap_alloc_new W1 _
    have n2 : W3.heap[w.heap.size + 1 + 1]? = some (.cells #[.slice a n c, .slice (some ⟨w.heap.size + 1, 0, none⟩) 1 1] 60 (0, 0)) := by rw [hW3, ← s2]; exact heap_alloc_new W2 _
    have hnews : ∃ news : List Value, news.length = n * 4 ∧ (∀ x, a = some x → ∀ j u, news[j]? = some u → W3.cell? (x.add j) = some u) ∧ (∀ u ∈ news, u.oneCell' = true) ∧ (a = none → n = 0) ∧
        ∀ (i : Nat) (u : Tm (d + 1)), ts[i]? = some u → ∃ lv, news[i * 4]? = some (.int .i64 u.K) ∧ news[i * 4 + 1]? = some (.int .i64 u.N) ∧ news[i * 4 + 2]? = some (.string u.S) ∧ news[i * 4 + 3]? = some lv ∧ RdQ d w0 lv u.L := by
      by_cases hts : ts = []
      · have hn0 : n = 0 := by rw [← hn, hts]; rfl
        exact ⟨[], by simp [hn0], fun x _ j u h => by simp at h, fun u h => by simp at h, fun _ => hn0, fun i u h => by rw [hts] at h; simp at h⟩
      · obtain ⟨b, o, c', e, hp, hel⟩ := hr.open hts
        simp only [Value.slice.injEq] at e
        obtain ⟨news, k1, k2, k3, k4⟩ := rdq_cells w0 ts b o hel
        refine ⟨news, by rw [k1, hn], fun x hx j u hu => ?_, k3, fun h => ?_, k4⟩
        · obtain rfl : (⟨b, o, none⟩ : Addr) = x := by rw [e.1] at hx; exact Option.some.inj hx
          have h2 := cell_later (h0.trans (bw.mono h0.size)) (k2 j u hu)
          cases j with
          | zero => simpa [Addr.add] using h2
          | succ j => simpa [Addr.add] using h2
        · rw [e.1] at h; cases h
    obtain ⟨news, k1, k2, k3, k5, k4⟩ := hnews
    have hC := concatTwo_any n c (w.heap.size + 1 + 1) (w.heap.size + 1) a news [.int .i64 t.K, .int .i64 t.N, .string t.S, .slice al ll lc] W3 (by omega) n2 k1 (fun u hu => by
        rcases List.mem_append.1 hu with hu | hu
        · exact k3 u hu
        · simp only [List.mem_cons, List.not_mem_nil, or_false] at hu
          rcases hu with rfl | rfl | rfl | rfl <;> rfl) k2 k5 rfl (fun j u hu => by
        have hc := fun k => cell_of_row W3 (w.heap.size + 1) k _ _ _ n1
        match j, hu with
        | 0, hu => simp at hu; subst hu; exact (hc 0).trans rfl
        | 1, hu => simp at hu; subst hu; exact (hc 1).trans rfl
        | 2, hu => simp at hu; subst hu; exact (hc 2).trans rfl
        | 3, hu => simp at hu; subst hu; exact (hc 3).trans rfl
        | j + 4, hu => simp at hu)
    have hdec : decide ((20 : Int) ≤ (n : Int)) = false := by simp; omega
    have h20' : ¬ ((20 : Int) ≤ (n : Int)) := by omega
    have HF : Hid (∀ (i : Nat) (u : Tm (d + 1)), ts[i]? = some u → ∃ lv, news[i * 4]? = some (.int .i64 u.K) ∧ news[i * 4 + 1]? = some (.int .i64 u.N) ∧ news[i * 4 + 2]? = some (.string u.S) ∧ news[i * 4 + 3]? = some lv ∧ RdQ d w0 lv u.L) := k4
    have HL : Hid (RdQ d w0 (.slice al ll lc) t.L ∧ news.length = n * 4 ∧ Below w.heap.size w W3) := ⟨hl, k1, bw⟩
    have HW3 : Hid (W3 = _) := hW3
    rw [hW3, hW2, hW1] at hC
    rw [hW2, hW1] at HW3
    clear hr hl b1 b2 b3 bw n1 n2 k1 k2 k3 k4 k5 s1 s2 hW1 hW2 hW3
    go_enter Try.func36, Try.ntmps36
    go_wp2_with fail
    refine hC.mono ?_
    clear hC
    rw [← HW3.out]
    rintro e w4 ⟨g, cg, rfl, HO, hb⟩
    have hbw4 : Below w.heap.size w w4 := HL.out.2.2.trans (hb.mono HL.out.2.2.size)
    have hgg : w.heap.size ≤ g ∧ g < w4.heap.size := by
      rcases HO.out.2 with ⟨e, _⟩ | ⟨g', c', cur, e1, e2, e3, _⟩
      · cases e
      · simp only [Value.slice.injEq, Option.some.injEq, Addr.mk.injEq, and_true] at e1
        obtain ⟨rfl, _⟩ := e1
        exact ⟨Nat.le_trans HL.out.2.2.size e2, lt_row e3⟩
    have HFIN : Hid ((∃ g', w.heap.size ≤ g' ∧ g' < w4.heap.size ∧ ∀ V : World, Below w0.heap.size w0 V → V.heap[g']? = w4.heap[g']? → RdQ (d + 1) V (.slice (some ⟨g, 0, none⟩) (n + 1) cg) (ts ++ [t])) ∧ Below w.heap.size w w4) := by
      refine ⟨⟨g, hgg.1, hgg.2, fun V hV hg => row_rdq (rowKept HO.out fun k hk => ?_) (by simp [hn]) fun i u hu => ?_⟩, hbw4⟩
      · obtain rfl : g = k := by simpa [Value.ownBlock] using hk
        exact hg
      · by_cases hi : i < ts.length
        · rw [List.getElem?_append_left hi] at hu
          obtain ⟨lv, j0, j1, j2, j3, j4⟩ := HF.out i u hu
          have hll := HL.out.2.1
          refine ⟨lv, ?_, ?_, ?_, ?_, j4.later hV⟩ <;> (rw [List.getElem?_append_left (by omega)]; assumption)
        · have hlt := (List.getElem?_eq_some_iff.1 hu).1
          rw [List.length_append, List.length_singleton] at hlt
          obtain rfl : i = ts.length := by omega
          rw [List.getElem?_append_right (Nat.le_refl _), Nat.sub_self] at hu
          obtain rfl : t = u := by simpa using hu
          have hll : news.length = ts.length * 4 := by rw [HL.out.2.1, hn]
          refine ⟨.slice al ll lc, ?_, ?_, ?_, ?_, HL.out.1.later hV⟩ <;> (rw [List.getElem?_append_right (by omega), hll]; simp)
    clear hb HO HF HL HW3 hbw4 hgg
    go_wp2_with fail
    refine bodyPost_ret (v := .tuple #[.slice (some ⟨g, 0, none⟩) (n + 1) cg, .bool true]) (by first | (simp [results, Try.results36, go_sem]; done) | (simp [results, Try.results36, go_sem]; rfl)) rfl ⟨_, _, _, true, rfl, .inl ⟨rfl, h20, HFIN.out.1⟩, HFIN.out.2⟩
  · have HE : Hid ((∀ V : World, Below w0.heap.size w0 V → RdQ (d + 1) V (.slice a n c) ts) ∧ Below w.heap.size w W1) := ⟨fun V hV => hr.later hV, b1⟩
    have h20' : (20 : Int) ≤ (n : Int) := by omega
    have HW1 : Hid (W1 = _) := hW1
    clear hr hl b1 hW1
    go_enter Try.func36, Try.ntmps36
    go_wp2_with fail
    rw [← HW1.out]
    refine bodyPost_ret (v := .tuple #[.slice a n c, .bool false]) (by first | (simp [results, Try.results36, go_sem]; done) | (simp [results, Try.results36, go_sem]; rfl)) rfl ⟨_, _, _, false, rfl, .inr ⟨rfl, by omega, HE.out.1⟩, HE.out.2⟩

end Go.Proofs.Ytfachfimdenapaa
