/- SendsOf: the program's. -/
import Derived.Test.YtegfbpidlopfoaaSs1M
import Derived.Test.YtegfbpidlopfoaaRLawM
import Derived.Deep.RegionHeldLaw
import Derived.Deep.DeepCutAuto
namespace Go.Proofs.Ytegfbpidlopfoaa
open Go.RowKit
set_option linter.unusedVariables false

theorem fldT3 (k n : Int) (s : ByteArray) (v : Value) (W : World) : (Instr.field 26 (.agg #[.int .i64 k, .int .i64 n, .string s, v]) 3).run Try.prog W = .ok v W := by
  simp [Instr.field, run_underlying Try.underlying26, part, asAgg, Result.andThen]

theorem eight_new (w : World) (v0 v1 v2 v3 v4 v5 v6 v7 : Value) (t : TypeId) : ∀ j u, [v0, v1, v2, v3, v4, v5, v6, v7][j]? = some u → (w.alloc (.cells #[v0, v1, v2, v3, v4, v5, v6, v7] t)).cell? ((⟨w.heap.size, 0, none⟩ : Addr).add j) = some u := by
  intro j u hj
  rw [Addr.add_lit, cell_of_row _ _ _ _ _ _ (heap_alloc_new w _)]
  simpa using hj

theorem sublist_flat {fps : List (List Nat)} {i : Nat} {f : List Nat} (h : fps[i]? = some f) : ∀ g ∈ f, g ∈ fps.flatten := fun g hg => List.mem_flatten.2 ⟨f, List.mem_of_getElem? h, hg⟩
theorem flat_apart {fps : List (List Nat)} (hn : fps.flatten.Nodup) {i j : Nat} {f f' : List Nat} (h : fps[i]? = some f) (h' : fps[j]? = some f') (hij : i < j) : ∀ g ∈ f, g ∉ f' := by
  induction fps generalizing i j with
  | nil => simp at h
  | cons p ps ih =>
    rw [List.flatten_cons, List.nodup_append] at hn
    cases j with
    | zero => omega
    | succ j =>
      simp only [List.getElem?_cons_succ] at h'
      cases i with
      | zero =>
        simp at h
        subst h
        intro g hg hg'
        exact hn.2.2 g hg g (sublist_flat h' g hg') rfl
      | succ i =>
        simp only [List.getElem?_cons_succ] at h
        exact ih hn.2.1 h h' (by omega)
theorem flat_nodup {fps : List (List Nat)} (hn : fps.flatten.Nodup) {i : Nat} {f : List Nat} (h : fps[i]? = some f) : f.Nodup := by
  induction fps generalizing i with
  | nil => simp at h
  | cons p ps ih =>
    rw [List.flatten_cons, List.nodup_append] at hn
    cases i with
    | zero => simp at h; subst h; exact hn.1
    | succ i => simp only [List.getElem?_cons_succ] at h; exact ih hn.2.1 h

/-- The two parts of a term that is owned. -/
theorem own_two {d : Nat} {w : World} {v : Value} {a b : Tm (d + 1)} {fp : List Nat} (h : OwnL (d + 1) w v [a, b] fp) :
    ∃ g c cur va vb fa fb, v = .slice (some ⟨g, 0, none⟩) 2 c ∧ w.heap[g]? = some (.cells cur 26 (0, 0)) ∧ fp = g :: (fa ++ fb) ∧ cur[0]? = some (.int .i64 a.K) ∧ cur[1]? = some (.int .i64 a.N) ∧ cur[2]? = some (.string a.S) ∧ cur[3]? = some va ∧ cur[4]? = some (.int .i64 b.K) ∧ cur[5]? = some (.int .i64 b.N) ∧ cur[6]? = some (.string b.S) ∧ cur[7]? = some vb ∧ OwnL d w va a.L fa ∧ OwnL d w vb b.L fb := by
  rcases h with ⟨h, _⟩ | ⟨g, c, cur, fps, h1, h2, h3, rfl, h4⟩
  · simp at h
  · obtain ⟨va, fa, e0, e1, e2, e3, e4, e5⟩ := h4 0 a rfl
    obtain ⟨vb, fb, d0, d1, d2, d3, d4, d5⟩ := h4 1 b rfl
    refine ⟨g, c, cur, va, vb, fa, fb, h1, h2, ?_, e1, e2, e3, e4, d1, d2, d3, d4, e5, d5⟩
    match fps, h3 with
    | [p, q], _ =>
      simp at e0 d0
      subst e0 d0
      simp

/-- What is owned of a row's i-th term. -/
theorem own_at {d : Nat} {w : World} {v : Value} {ts : List (Tm (d + 1))} {fp : List Nat} (h : OwnL (d + 1) w v ts fp) (hne : ts ≠ []) :
    ∃ (g c : Nat) (cur : Array Value) (fps : List (List Nat)), v = .slice (some ⟨g, 0, none⟩) ts.length c ∧ w.heap[g]? = some (.cells cur 26 (0, 0)) ∧ fps.length = ts.length ∧ fp = g :: fps.flatten ∧ ∀ (i : Nat) (t : Tm (d + 1)), ts[i]? = some t → ∃ lv f, fps[i]? = some f ∧ cur[i * 4]? = some (.int .i64 t.K) ∧ cur[i * 4 + 1]? = some (.int .i64 t.N) ∧ cur[i * 4 + 2]? = some (.string t.S) ∧ cur[i * 4 + 3]? = some lv ∧ OwnL d w lv t.L f := by
  rcases h with ⟨h, _⟩ | h
  · exact absurd h hne
  · exact h

theorem own_rows {d B : Nat} {w : World} {v : Value} {ts : List (Tm (d + 1))} {fp : List Nat} (h : OwnL (d + 1) w v ts fp) (hf : Fresh B w fp) :
    ∃ (fps : List (List Nat)), fps.flatten.Nodup ∧ (∀ g ∈ fps.flatten, B ≤ g ∧ g < w.heap.size) ∧ ∀ (i : Nat) (t : Tm (d + 1)), ts[i]? = some t → ∃ (g c : Nat) (cur : Array Value) (lv : Value) (f : List Nat), v = .slice (some ⟨g, 0, none⟩) ts.length c ∧ w.heap[g]? = some (.cells cur 26 (0, 0)) ∧ fps[i]? = some f ∧ cur[i * 4]? = some (.int .i64 t.K) ∧ cur[i * 4 + 1]? = some (.int .i64 t.N) ∧ cur[i * 4 + 2]? = some (.string t.S) ∧ cur[i * 4 + 3]? = some lv ∧ OwnL d w lv t.L f := by
  rcases h with ⟨rfl, rfl, _⟩ | ⟨g, c, cur, fps, h1, h2, h3, rfl, h4⟩
  · exact ⟨[], by simp, fun g hg => by simp at hg, fun i t ht => by simp at ht⟩
  · refine ⟨fps, (List.nodup_cons.1 hf.1).2, fun g hg => hf.2 g (List.mem_cons_of_mem _ hg), fun i t ht => ?_⟩
    obtain ⟨lv, f, e0, e1, e2, e3, e4, e5⟩ := h4 i t ht
    exact ⟨g, c, cur, lv, f, h1, h2, e0, e1, e2, e3, e4, e5⟩

theorem own_blkK {w : World} {B e z n : Nat} {v : Value} {xs : List Value} (h : w.ownsRow B e z v n xs) : ∀ g, v.ownBlock = some g → g < w.heap.size := fun g hg => by
  rcases h.2 with ⟨e1, _⟩ | ⟨g', c', cur, e1, e2, e3, _⟩
  · rw [e1] at hg; cases hg
  · rw [e1] at hg
    obtain rfl : g' = g := by simpa [Value.ownBlock] using hg
    exact lt_row e3
/-- The sends so far. -/
def SoI (d : Nat) (ts : List (Tm (d + 1 + 1))) (fps : List (List Nat)) (B : Nat) (V1 : World) (v : Value) (w : World) (j : Nat) : Prop :=
  ∃ fpR, MadeR 8 33 (SendO d) B w v ((ts.take j).map (sendOf d)) fpR ∧ (∀ g ∈ fpR, V1.heap.size ≤ g ∨ ∃ i f, i < j ∧ fps[i]? = some f ∧ g ∈ f) ∧ (∀ k, v.ownBlock = some k → V1.heap.size ≤ k) ∧ Below V1.heap.size V1 w

theorem MadeR.fresh {α : Type} {k : Nat} {T : TypeId} {O : World → List Value → α → List Nat → Prop} {B : Nat} {w : World} {v : Value} {xs : List α} {fp : List Nat} (h : MadeR k T O B w v xs fp) : Fresh B w fp := by
  obtain ⟨_, _, _, _, _, h, _⟩ := h
  exact h

theorem SoI.next {d : Nat} {ts : List (Tm (d + 1 + 1))} {fps : List (List Nat)} {B : Nat} {V1 wr Wq : World} {v va vb : Value} {j g2 : Nat} {x : Tm (d + 1 + 1)} {a b : Tm (d + 1)} {fa fb : List Nat} (h : SoI d ts fps B V1 v wr j) (hx : ts[j]? = some x) (hs : sendOf d x = ⟨a, b⟩) (hf : fps[j]? = some (g2 :: (fa ++ fb)))
    (hnd : fps.flatten.Nodup) (hB : ∀ g ∈ fps.flatten, B ≤ g ∧ g < V1.heap.size) (oa : OwnL d V1 va a.L fa) (ob : OwnL d V1 vb b.L fb) (hq : Below wr.heap.size wr Wq) :
    ∃ cs : List Value, Wq.ownsRow B 33 8 v j cs ∧ ∀ (v' : Value) (w' : World), w'.ownsRow B 33 8 v' (j + 1) (cs ++ [.int .i64 a.K, .int .i64 a.N, .string a.S, va, .int .i64 b.K, .int .i64 b.N, .string b.S, vb]) → Wq.grownBy w' v.ownBlock → (v'.ownBlock = v.ownBlock ∨ v'.ownBlock = some Wq.heap.size) → Hid (SoI d ts fps B V1 v' w' (j + 1)) := by
  obtain ⟨fpR, hM, hfp, hob, hb⟩ := h
  have hj := (List.getElem?_eq_some_iff.1 hx).1
  have hl : ((ts.take j).map (sendOf d)).length = j := by simp; omega
  have hM' := hM.frame (SendO.lasts d) (fun g hg => hq.block g (hM.fresh.2 g hg).2) hq.size
  obtain ⟨cs, hrow⟩ := hM'.row
  have hrow' := hrow
  rw [hl] at hrow'
  have hbq : Below V1.heap.size V1 Wq := hb.trans (hq.mono hb.size)
  have hin : ∀ g ∈ fa ++ fb, g ∈ g2 :: (fa ++ fb) := fun g hg => List.mem_cons_of_mem _ hg
  have hlow : ∀ g ∈ fa ++ fb, B ≤ g ∧ g < V1.heap.size := fun g hg => hB g (sublist_flat hf g (hin g hg))
  have hnf : (fa ++ fb).Nodup := (List.nodup_cons.1 (flat_nodup hnd hf)).2
  refine ⟨cs, hrow', fun v' w' ho hg hat => ?_⟩
  have hS : SendO d Wq [.int .i64 a.K, .int .i64 a.N, .string a.S, va, .int .i64 b.K, .int .i64 b.N, .string b.S, vb] ⟨a, b⟩ (fa ++ fb) :=
    ⟨_, _, _, _, _, _, _, _, fa, fb, rfl, rfl, ⟨va, rfl, oa.frame fun g hg => hbq.block g (hlow g (List.mem_append_left _ hg)).2⟩, ⟨vb, rfl, ob.frame fun g hg => hbq.block g (hlow g (List.mem_append_right _ hg)).2⟩⟩
  have hd : ∀ g ∈ fa ++ fb, g ∉ fpR := fun g hg hm => by
    rcases hfp g hm with h1 | ⟨i, f, h1, h2, h3⟩
    · have := (hlow g hg).2; omega
    · exact flat_apart hnd h2 hf h1 g h3 (hin g hg)
  obtain ⟨fp', hM2, hfp2⟩ := hM'.step (SendO.lasts d) hrow hS rfl ⟨hnf, fun g hg => ⟨(hlow g hg).1, Nat.lt_of_lt_of_le (hlow g hg).2 hbq.size⟩⟩ hd (by rw [hl]; exact ho) hg hat
  have hxs : (ts.take (j + 1)).map (sendOf d) = (ts.take j).map (sendOf d) ++ [⟨a, b⟩] := by
    rw [List.take_succ_eq_append_getElem hj, List.map_append]
    have := (List.getElem?_eq_some_iff.1 hx).2
    simp [this, hs]
  refine ⟨fp', by rw [hxs]; exact hM2, fun g hg => ?_, fun k hk => ?_, hbq.grown hg hbq.size hob⟩
  · rcases hfp2 g hg with h1 | h1 | h1
    · rcases hfp g h1 with h2 | ⟨i, f, h2, h3, h4⟩
      · exact .inl h2
      · exact .inr ⟨i, f, by omega, h3, h4⟩
    · exact .inr ⟨j, _, by omega, hf, hin g h1⟩
    · exact .inl (Nat.le_trans hbq.size h1)
  · rcases hat with h1 | h1
    · exact hob k (by rw [← h1]; exact hk)
    · rw [h1] at hk
      have : k = Wq.heap.size := by simpa using hk.symm
      have := hbq.size
      omega

theorem own_row_len {α : Type} {k : Nat} {T : TypeId} {O : World → List Value → α → List Nat → Prop} {w : World} {a : Option Addr} {n c : Nat} {xs : List α} {fp : List Nat} (h : OwnRow k T O w (.slice a n c) xs fp) : xs.length = n := by
  rcases h with ⟨rfl, _, a', c', h⟩ | ⟨g, c', cur, fps, h, _⟩
  · simp at h; simp [h.2.1]
  · simp at h; exact h.2.1.symm

/-- What the program's SendsOf answers. -/
def SoRes (d : Nat) (k : Int) (ts : List (Tm (d + 1 + 1))) (w : World) (e : Ending) (w' : World) : Prop :=
  ∃ (a : Option Addr) (n c : Nat) (ok : Bool) (l : List (DSend d)) (fp : List Nat), e = .returned (.tuple #[.slice a n c, .bool ok]) ∧ Hid (SendsT d k ts ok l ∧ OwnRow 8 33 (SendO d) w' (.slice a n c) l fp ∧ Fresh w.heap.size w' fp ∧ l.length = n) ∧ Below w.heap.size w w'

set_option maxRecDepth 100000 in
set_option maxHeartbeats 4000000 in
theorem implSendsOf_any (d : Nat) (k n : Int) (s : ByteArray) (a : Option Addr) (l c : Nat) (ts : List (Tm (d + 1 + 1))) (w : World) (hr : RdQ (d + 1 + 1) w (.slice a l c) ts) (hrl : RdL (d + 1 + 1) w (.slice a l c) ts) (hw : WfL (d + 1 + 1) ts) (hl : ts.length = l) (hc : cntL (d + 1 + 1) ts ≤ 1048576) :
    Calls Try.prog 6 #[.agg #[.int .i64 k, .int .i64 n, .string s, .slice a l c]] w fun e w' => SoRes d k ts w e w' := by
  obtain ⟨j0, hj, hj0, hj1, hj2⟩ := info_parts Try.infoSend
  have hlc := len_cnt ts
  obtain ⟨W, hW⟩ : ∃ W, W = w.alloc (.cells #[.int .i64 k, .int .i64 n, .string s, .slice a l c] 26) := ⟨_, rfl⟩
  have hA : Below w.heap.size w W := by rw [hW]; exact (Below.refl _ _).alloc (Nat.le_refl _) _
  have nA : W.heap[w.heap.size]? = some (.cells #[.int .i64 k, .int .i64 n, .string s, .slice a l c] 26 (0, 0)) := by rw [hW]; exact heap_alloc_new w _
  have HQ : Hid (RdQ (d + 1 + 1) w (.slice a l c) ts) := hr
  have HTS : Hid (WfL (d + 1 + 1) ts ∧ ts.length = l ∧ cntL (d + 1 + 1) ts ≤ 1048576) := ⟨hw, hl, hc⟩
  have hmf : ∀ (fn : Fn) (first cap : Array Value) (w : World), (Instr.makeFunc fn first cap).run Try.prog w = .ok (.func fn first cap) w := fun _ _ _ _ => rfl
  have HE0 : Hid (Below w.heap.size w W ∧ W.heap[w.heap.size]? = some (.cells #[.int .i64 k, .int .i64 n, .string s, .slice a l c] 26 (0, 0)) ∧ W = _) := ⟨hA, nA, hW⟩
  by_cases hk5 : k = 5
  case neg =>
    have hkb : (k != 5) = true := by simp [hk5]
    have HF : Hid (¬ (k = 5 ∧ ∀ x ∈ ts, ¬ NoS d x)) := fun h => hk5 h.1
    rw [hW] at hA
    clear hk5 hr hrl hw hl hc hlc nA hW
    go_enter Try.func6, Try.ntmps6
    go_wp2_with fail
    refine bodyPost_ret (v := .tuple #[.slice none 0 0, .bool false]) (by first | (simp [results, Try.results6, go_sem]; done) | (simp [results, Try.results6, go_sem]; rfl)) rfl ⟨none, 0, 0, false, [], [], rfl, ⟨.inr ⟨rfl, HF.out, rfl⟩, .inl ⟨rfl, rfl, none, 0, rfl⟩, ⟨List.nodup_nil, fun g hg => by cases hg⟩, rfl⟩, hA⟩
  have hkb : (k != 5) = false := by simp [hk5]
  have HK5 : Hid (k = 5) := hk5
  have hC := containsTm_any (d + 1) 15 _ enters_noSend (isNoSend_any d) a l c ts W (hrl.later hA) hw hl (by omega)
  obtain ⟨PP, hPP⟩ : ∃ Q : Prop, (∃ (i : Nat) (t : Tm (d + 1 + 1)), ts[i]? = some t ∧ NoS d t) = Q := ⟨_, rfl⟩
  have HPP : Hid ((∃ (i : Nat) (t : Tm (d + 1 + 1)), ts[i]? = some t ∧ NoS d t) = PP) := hPP
  rw [hPP, hW] at hC
  clear hk5 hr hrl hw hl hc hPP hA nA hW
  go_enter Try.func6, Try.ntmps6
  go_wp2_with fail
  refine hC.mono ?_
  clear hC
  rintro e V ⟨b, rfl, hb, hB⟩
  rw [← HE0.out.2.2] at hB
  have HB : Hid (b = true ↔ PP) := hb
  have HBV : Hid (Below w.heap.size w V) := HE0.out.1.trans (hB.mono HE0.out.1.size)
  have nV := (hB.block _ (lt_row HE0.out.2.1)).trans HE0.out.2.1
  cases b with
  | true =>
    have HF : Hid (¬ (k = 5 ∧ ∀ x ∈ ts, ¬ NoS d x)) := fun h => by
      have h1 := HB.out.1 rfl
      rw [← HPP.out] at h1
      obtain ⟨i, t, h2, h3⟩ := h1
      exact h.2 t (List.mem_of_getElem? h2) h3
    clear hb hB nV
    go_wp2_with fail
    refine bodyPost_ret (v := .tuple #[.slice none 0 0, .bool false]) (by first | (simp [results, Try.results6, go_sem]; done) | (simp [results, Try.results6, go_sem]; rfl)) rfl ⟨none, 0, 0, false, [], [], rfl, ⟨.inr ⟨rfl, HF.out, rfl⟩, .inl ⟨rfl, rfl, none, 0, rfl⟩, ⟨List.nodup_nil, fun g hg => by cases hg⟩, rfl⟩, HBV.out⟩
  | false =>
    have HG : Hid (∀ x ∈ ts, ¬ NoS d x) := fun x hx h3 => by
      obtain ⟨i, hi⟩ := List.getElem?_of_mem hx
      have : PP := by rw [← HPP.out]; exact ⟨i, x, hi, h3⟩
      have := HB.out.2 this
      cases this
    have x0 : V.cell? ⟨w.heap.size, 0, none⟩ = some (.int .i64 k) := by rw [cell_of_row V _ 0 _ _ _ nV]; rfl
    have x1 : V.cell? ⟨w.heap.size, 1, none⟩ = some (.int .i64 n) := by rw [cell_of_row V _ 1 _ _ _ nV]; rfl
    have x2 : V.cell? ⟨w.heap.size, 2, none⟩ = some (.string s) := by rw [cell_of_row V _ 2 _ _ _ nV]; rfl
    have x3 : V.cell? ⟨w.heap.size, 3, none⟩ = some (.slice a l c) := by rw [cell_of_row V _ 3 _ _ _ nV]; rfl
    have hC := ownTerm_any (d + 1 + 1) k n s (.slice a l c) ts V (HQ.out.later HBV.out) (by have := HTS.out.2.2; omega)
    clear hb hB nV HB HPP
    go_wp2_with fail
    refine hC.mono ?_
    clear hC x0 x1 x2 x3
    rintro e V1 ⟨a', l', c', fp, rfl, HO, hB1⟩
    obtain ⟨a2, c2, e2⟩ := HO.out.1.rd.len1
    obtain ⟨rfl, rfl, rfl⟩ : a' = a2 ∧ l' = ts.length ∧ c' = c2 := by simpa using e2
    rw [HTS.out.2.1] at HO ⊢
    have HB1 : Hid (Below V.heap.size V V1) := hB1
    have hfl := fldT3 k n s (.slice a' l c') V1
    clear hB1 e2
    obtain ⟨fps, hnd, hB, hat⟩ := own_rows HO.out.1 HO.out.2
    have HFP : Hid (fps.flatten.Nodup ∧ (∀ g ∈ fps.flatten, V.heap.size ≤ g ∧ g < V1.heap.size) ∧ _) := ⟨hnd, hB, hat⟩
    have HI0 : Hid (SoI d ts fps V.heap.size V1 (.slice none 0 0) V1 0) := ⟨[], MadeR.nil _ _, fun g hg => (by cases hg), fun k hk => (by simp [Value.ownBlock] at hk), Below.refl _ _⟩
    have hl1 : l ≤ 1048576 := by have := HTS.out; have := len_cnt ts; omega
    clear hnd hB hat HO
    go_wp2_with fail
    go_loopw [4, 19] (fun v i wr => ∃ j : Nat, j ≤ l ∧ i = .int .i64 j ∧ Hid (SoI d ts fps V.heap.size V1 v wr j)) (fun _ i _ => l - (intOf i).toNat)
    case atStart => exact ⟨0, Nat.zero_le _, rfl, HI0.out⟩
    case round =>
      obtain ⟨j, hj', rfl, HI⟩ := hrel
      clear HI0
      by_cases hjl : j < l
      · obtain ⟨x, hx⟩ : ∃ x, ts[j]? = some x := ⟨_, List.getElem?_eq_getElem (by rw [HTS.out.2.1]; exact hjl)⟩
        obtain ⟨g, c3, cur, lv, f, ev, hg, hfp, q0, q1, q2, q3, ho⟩ := HFP.out.2.2 j x hx
        rw [HTS.out.2.1] at ev
        obtain ⟨rfl, rfl⟩ : a' = some ⟨g, 0, none⟩ ∧ c' = c3 := by simpa using ev
        obtain ⟨xa, xb, hL, hsx⟩ := good_open (HG.out x (List.mem_of_getElem? hx))
        rw [hL] at ho
        obtain ⟨g2, c4, cur2, va, vb, fa, fb, rfl, hg2, rfl, p0, p1, p2, p3, p4, p5, p6, p7, oa, ob⟩ := own_two ho
        have hbw : Below V1.heap.size V1 wr := HI.out.choose_spec.2.2.2
        have n1 := (hbw.block _ (lt_row hg)).trans hg
        have n2 := (hbw.block _ (lt_row hg2)).trans hg2
        have y0 : wr.cell? ⟨g, j * 4, none⟩ = some (.int .i64 x.K) := by rw [cell_of_row wr _ _ _ _ _ n1]; exact q0
        have y1 : wr.cell? ⟨g, j * 4 + 1, none⟩ = some (.int .i64 x.N) := by rw [cell_of_row wr _ _ _ _ _ n1]; exact q1
        have y2 : wr.cell? ⟨g, j * 4 + 2, none⟩ = some (.string x.S) := by rw [cell_of_row wr _ _ _ _ _ n1]; exact q2
        have y3 : wr.cell? ⟨g, j * 4 + 3, none⟩ = some (.slice (some ⟨g2, 0, none⟩) 2 c4) := by rw [cell_of_row wr _ _ _ _ _ n1]; exact q3
        obtain ⟨aa, la, ca, rfl⟩ := oa.rd.shape
        obtain ⟨ab, lb, cb, rfl⟩ := ob.rd.shape
        obtain ⟨w2, hw2⟩ : ∃ W, W = wr.alloc (.cells #[.int .i64 x.K, .int .i64 x.N, .string x.S, .slice (some ⟨g2, 0, none⟩) 2 c4] 26) := ⟨_, rfl⟩
        have hbA : Below wr.heap.size wr w2 := by rw [hw2]; exact (Below.refl _ _).alloc (Nat.le_refl _) _
        have nb2 : w2.heap[wr.heap.size]? = some (.cells #[.int .i64 x.K, .int .i64 x.N, .string x.S, .slice (some ⟨g2, 0, none⟩) 2 c4] 26 (0, 0)) := by rw [hw2]; exact heap_alloc_new wr _
        have n3 := (hbA.block _ (lt_row n2)).trans n2
        have hWq : Below w2.heap.size w2 (w2.alloc (.cells #[.int .i64 xa.K, .int .i64 xa.N, .string xa.S, .slice aa la ca, .int .i64 xb.K, .int .i64 xb.N, .string xb.S, .slice ab lb cb] 33)).drew := ((Below.refl _ _).alloc (Nat.le_refl _) _).drew
        obtain ⟨cs, hown, happ⟩ := HI.out.next hx hsx hfp HFP.out.1 HFP.out.2.1 oa ob (hbA.trans (hWq.mono hbA.size))
        have HAP : Hid (∀ (v' : Value) (w3 : World), _ → _ → _ → Hid (SoI d ts fps V.heap.size V1 v' w3 (j + 1))) := happ
        obtain ⟨ua, ul, uc, rfl⟩ : ∃ ua ul uc, u4 = .slice ua ul uc := by
          rcases hown.2 with ⟨e, _⟩ | ⟨g', c', cur', e, _⟩
          · exact ⟨_, _, _, e⟩
          · exact ⟨_, _, _, e⟩
        have hsz : V.heap.size ≤ w2.heap.size := Nat.le_trans (Nat.le_trans HB1.out.size hbw.size) hbA.size
        have HSK : Hid (∀ V : World, Below w2.heap.size w2 V → V.cell? ⟨wr.heap.size, 3, none⟩ = some (.slice (some ⟨g2, 0, none⟩) 2 c4) ∧ V.cell? ⟨g2, 0, none⟩ = some (.int .i64 xa.K) ∧ V.cell? ⟨g2, 1, none⟩ = some (.int .i64 xa.N) ∧ V.cell? ⟨g2, 2, none⟩ = some (.string xa.S) ∧ V.cell? ⟨g2, 3, none⟩ = some (.slice aa la ca) ∧ V.cell? ⟨g2, 4, none⟩ = some (.int .i64 xb.K) ∧ V.cell? ⟨g2, 5, none⟩ = some (.int .i64 xb.N) ∧ V.cell? ⟨g2, 6, none⟩ = some (.string xb.S) ∧ V.cell? ⟨g2, 7, none⟩ = some (.slice ab lb cb)) := fun V hV => by
          have m1 := (hV.block _ (lt_row nb2)).trans nb2
          have m2 := (hV.block _ (lt_row n3)).trans n3
          have z0 := fun (i : Nat) (u : Value) (hu : cur2[i]? = some u) => (cell_of_row V g2 i _ _ _ m2).trans hu
          exact ⟨by rw [cell_of_row V _ 3 _ _ _ m1]; rfl, z0 0 _ p0, z0 1 _ p1, z0 2 _ p2, z0 3 _ p3, z0 4 _ p4, z0 5 _ p5, z0 6 _ p6, z0 7 _ p7⟩
        have hown1 : HI.out.choose = HI.out.choose := rfl
        have hownk : ∀ k, (Value.slice ua ul uc).ownBlock = some k → V1.heap.size ≤ k ∧ k < wr.heap.size := fun k hk => by
          obtain ⟨fpR, hM, _, hob, _⟩ := HI.out
          obtain ⟨cs2, hr2⟩ := hM.row
          exact ⟨hob k hk, (own_blkK hr2 k hk)⟩
        have HSG : Hid (∀ V : World, (w2.alloc (.cells #[.int .i64 xa.K, .int .i64 xa.N, .string xa.S, .slice aa la ca, .int .i64 xb.K, .int .i64 xb.N, .string xb.S, .slice ab lb cb] 33)).drew.grownBy V (Value.slice ua ul uc).ownBlock → V.cell? ⟨wr.heap.size, 3, none⟩ = some (.slice (some ⟨g2, 0, none⟩) 2 c4) ∧ V.cell? ⟨g2, 0, none⟩ = some (.int .i64 xa.K) ∧ V.cell? ⟨g2, 1, none⟩ = some (.int .i64 xa.N) ∧ V.cell? ⟨g2, 2, none⟩ = some (.string xa.S) ∧ V.cell? ⟨g2, 3, none⟩ = some (.slice aa la ca) ∧ V.cell? ⟨g2, 4, none⟩ = some (.int .i64 xb.K) ∧ V.cell? ⟨g2, 5, none⟩ = some (.int .i64 xb.N) ∧ V.cell? ⟨g2, 6, none⟩ = some (.string xb.S) ∧ V.cell? ⟨g2, 7, none⟩ = some (.slice ab lb cb)) := fun V hg => by
          have m1 : V.heap[wr.heap.size]? = _ := (hg.block _ (Nat.lt_of_lt_of_le (lt_row nb2) hWq.size) (fun e => by have := (hownk _ e.symm).2; omega)).trans ((hWq.block _ (lt_row nb2)).trans nb2)
          have m2 : V.heap[g2]? = _ := (hg.block _ (Nat.lt_of_lt_of_le (lt_row n3) hWq.size) (fun e => by have := (hownk _ e.symm).1; have := lt_row hg2; omega)).trans ((hWq.block _ (lt_row n3)).trans n3)
          have z0 := fun (i : Nat) (u : Value) (hu : cur2[i]? = some u) => (cell_of_row V g2 i _ _ _ m2).trans hu
          exact ⟨by rw [cell_of_row V _ 3 _ _ _ m1]; rfl, z0 0 _ p0, z0 1 _ p1, z0 2 _ p2, z0 3 _ p3, z0 4 _ p4, z0 5 _ p5, z0 6 _ p6, z0 7 _ p7⟩
        obtain ⟨b3, z00, z01, z02, z03, z04, z05, z06, z07⟩ := HSK.out w2 (Below.refl _ _)
        have HW2 : Hid (w2 = _) := hw2
        have hlt2 : wr.heap.size < w2.heap.size := lt_row nb2
        clear happ hfp q0 q1 q2 q3 ho hL hsx hg hg2 p0 p1 p2 p3 p4 p5 p6 p7 oa ob hbw n1 n2 hbA n3 hx ev hWq hown1 hownk nb2 hw2
        have HONE : Hid (∀ u ∈ ([.int .i64 xa.K, .int .i64 xa.N, .string xa.S, .slice aa la ca, .int .i64 xb.K, .int .i64 xb.N, .string xb.S, .slice ab lb cb] : List Value), u.oneCell' = true) := by
          intro u hu
          simp only [List.mem_cons, List.not_mem_nil, or_false] at hu
          rcases hu with rfl | rfl | rfl | rfl | rfl | rfl | rfl | rfl <;> rfl
        have HJ1 : Hid (j + 1 ≤ maxLen) := by show _ ≤ _; unfold maxLen; omega
        have HJ2 : Hid ((j + 1) * 112 ≤ 140737488355328) := by show _ ≤ _; omega
        have HJ3 : Hid (V.heap.size ≤ (w2.alloc (.cells #[.int .i64 xa.K, .int .i64 xa.N, .string xa.S, .slice aa la ca, .int .i64 xb.K, .int .i64 xb.N, .string xb.S, .slice ab lb cb] 33)).drew.heap.size) := Nat.le_trans hsz (by show w2.heap.size ≤ (w2.alloc (.cells #[.int .i64 xa.K, .int .i64 xa.N, .string xa.S, .slice aa la ca, .int .i64 xb.K, .int .i64 xb.N, .string xb.S, .slice ab lb cb] 33)).heap.size; simp)
        go_wp2_with fail
        rw [← HW2.out]
        go_region_held_law (fun V => V.cell? ⟨wr.heap.size, 3, none⟩ = some (.slice (some ⟨g2, 0, none⟩) 2 c4) ∧ V.cell? ⟨g2, 0, none⟩ = some (.int .i64 xa.K) ∧ V.cell? ⟨g2, 1, none⟩ = some (.int .i64 xa.N) ∧ V.cell? ⟨g2, 2, none⟩ = some (.string xa.S) ∧ V.cell? ⟨g2, 3, none⟩ = some (.slice aa la ca) ∧ V.cell? ⟨g2, 4, none⟩ = some (.int .i64 xb.K) ∧ V.cell? ⟨g2, 5, none⟩ = some (.int .i64 xb.N) ∧ V.cell? ⟨g2, 6, none⟩ = some (.string xb.S) ∧ V.cell? ⟨g2, 7, none⟩ = some (.slice ab lb cb)) (first | (with_reducible assumption) | (with_reducible exact HSK.out _ ((Below.refl _ _).alloc (Nat.le_refl _) _)) | (with_reducible exact HSK.out _ ((Below.refl _ _).alloc (Nat.le_refl _) _).drew) | (with_reducible exact HSK.out _ (Below.refl _ _).drew)) ((refine step_append_own rfl (.tmp 23) (.tmp 33) 28 rfl V.heap.size 33 j0 (.agg #[.int .i64 0, .int .i64 0, .string ⟨#[]⟩, .slice none 0 0, .int .i64 0, .int .i64 0, .string ⟨#[]⟩, .slice none 0 0]) 8 112 Try.underlying28 hj hj0 hj1 hj2 rfl (by decide) (.slice ua ul uc) j cs (by simp [Act.eval]) hown ⟨w2.heap.size, 0, none⟩ 1 1 [.int .i64 xa.K, .int .i64 xa.N, .string xa.S, .slice aa la ca, .int .i64 xb.K, .int .i64 xb.N, .string xb.S, .slice ab lb cb] (by simp [Act.eval]) rfl (eight_new w2 (.int .i64 xa.K) (.int .i64 xa.N) (.string xa.S) (.slice aa la ca) (.int .i64 xb.K) (.int .i64 xb.N) (.string xb.S) (.slice ab lb cb) 33) HONE.out HJ1.out HJ2.out HJ3.out ?_; intro v' w3 hown3 hgrow3 hat3; have HN : Hid _ := HAP.out _ _ hown3 hgrow3 hat3; have hsk3 := HSG.out _ hgrow3))
        all_goals
          clear hown3 hgrow3 hat3
          go_wp2_with fail
          go_roundw
          case rel => exact ⟨j + 1, by omega, by go_num, HN.out⟩
          case measure => simp [intOf]; omega
      · obtain rfl : l = j := by omega
        have hjl' : decide ((l : Int) < (l : Int)) = false := by simp
        have HE : Hid (∃ (a : Option Addr) (n c : Nat) (fp : List Nat), u4 = .slice a n c ∧ OwnRow 8 33 (SendO d) wr (.slice a n c) (ts.map (sendOf d)) fp ∧ Fresh w.heap.size wr fp ∧ (ts.map (sendOf d)).length = n ∧ Below w.heap.size w wr) := by
          obtain ⟨fpR, hM, _, _, hb⟩ := HI.out
          have e : ts.take l = ts := List.take_of_length_le (by rw [HTS.out.2.1]; exact Nat.le_refl _)
          rw [e] at hM
          obtain ⟨a3, l3, c3, fp3, rfl, hO, hF⟩ := hM.own
          exact ⟨a3, l3, c3, fp3, rfl, hO, ⟨hF.1, fun g hg => ⟨Nat.le_trans HBV.out.size (hF.2 g hg).1, (hF.2 g hg).2⟩⟩, own_row_len hO, HBV.out.trans ((HB1.out.trans (hb.mono HB1.out.size)).mono HBV.out.size)⟩
        obtain ⟨a3, n3, c3, fp3, rfl, hE⟩ := HE.out
        have HE2 : Hid _ := hE
        clear HE hE
        go_wp2_with fail
        refine bodyPost_ret (v := .tuple #[.slice a3 n3 c3, .bool true]) (by first | (simp [results, Try.results6, go_sem]; done) | (simp [results, Try.results6, go_sem]; rfl)) rfl ⟨a3, n3, c3, true, _, fp3, rfl, ⟨.inl ⟨rfl, HK5.out, HG.out, rfl⟩, HE2.out.1, HE2.out.2.1, HE2.out.2.2.1⟩, HE2.out.2.2.2⟩

end Go.Proofs.Ytegfbpidlopfoaa
