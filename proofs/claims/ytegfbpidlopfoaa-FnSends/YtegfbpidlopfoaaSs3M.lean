/- SendsOf: the model's. -/
import Derived.Test.YtegfbpidlopfoaaSs2M
import Derived.Test.YtegfbpidlopfoaaCpM
namespace Go.Proofs.Ytegfbpidlopfoaa
open Go.RowKit
set_option linter.unusedVariables false

/-- The model's sends so far. -/
def MoI (d : Nat) (ts : List (Tm (d + 1 + 1))) (B : Nat) (W0 : World) (v : Value) (w : World) (j : Nat) : Prop :=
  ∃ fpR, MadeR 8 33 (SendO d) B w v ((ts.take j).map (sendOf d)) fpR ∧ Below B W0 w

theorem MoI.next {d : Nat} {ts : List (Tm (d + 1 + 1))} {B : Nat} {W0 wr V Wq : World} {v va vb : Value} {j : Nat} {x : Tm (d + 1 + 1)} {a b : Tm (d + 1)} {fa fb : List Nat} (h : MoI d ts B W0 v wr j) (hx : ts[j]? = some x) (hs : sendOf d x = ⟨a, b⟩) (hBw : B ≤ wr.heap.size)
    (hV : Below wr.heap.size wr V) (oa : OwnL d V va a.L fa) (ob : OwnL d V vb b.L fb) (hfa : fa.Nodup ∧ ∀ g ∈ fa, wr.heap.size ≤ g ∧ g < V.heap.size) (hfb : fb.Nodup ∧ ∀ g ∈ fb, wr.heap.size ≤ g ∧ g < V.heap.size) (hab : ∀ g ∈ fa, g ∉ fb) (hq : Below V.heap.size V Wq) :
    ∃ cs : List Value, Wq.ownsRow B 33 8 v j cs ∧ (∀ k, v.ownBlock = some k → B ≤ k ∧ k < wr.heap.size) ∧ ∀ (v' : Value) (w' : World), w'.ownsRow B 33 8 v' (j + 1) (cs ++ [.int .i64 a.K, .int .i64 a.N, .string a.S, va, .int .i64 b.K, .int .i64 b.N, .string b.S, vb]) → Wq.grownBy w' v.ownBlock → (v'.ownBlock = v.ownBlock ∨ v'.ownBlock = some Wq.heap.size) → Hid (MoI d ts B W0 v' w' (j + 1)) := by
  obtain ⟨fpR, hM, hb⟩ := h
  have hj := (List.getElem?_eq_some_iff.1 hx).1
  have hl : ((ts.take j).map (sendOf d)).length = j := by simp; omega
  have hwq : Below wr.heap.size wr Wq := hV.trans (hq.mono hV.size)
  have hM' := hM.frame (SendO.lasts d) (fun g hg => hwq.block g (hM.fresh.2 g hg).2) hwq.size
  obtain ⟨cs0, hrow0⟩ := hM.row
  obtain ⟨cs, hrow⟩ := hM'.row
  have hrow' := hrow
  rw [hl] at hrow'
  have hin : ∀ g ∈ fa ++ fb, wr.heap.size ≤ g ∧ g < V.heap.size := fun g hg => by
    rcases List.mem_append.1 hg with hg | hg
    · exact hfa.2 g hg
    · exact hfb.2 g hg
  have hobk : ∀ k, v.ownBlock = some k → B ≤ k ∧ k < wr.heap.size := fun k hk => hrow0.lt k hk
  refine ⟨cs, hrow', hobk, fun v' w' ho hg hat => ?_⟩
  have hS : SendO d Wq [.int .i64 a.K, .int .i64 a.N, .string a.S, va, .int .i64 b.K, .int .i64 b.N, .string b.S, vb] ⟨a, b⟩ (fa ++ fb) :=
    ⟨_, _, _, _, _, _, _, _, fa, fb, rfl, rfl, ⟨va, rfl, oa.frame fun g hg => hq.block g (hfa.2 g hg).2⟩, ⟨vb, rfl, ob.frame fun g hg => hq.block g (hfb.2 g hg).2⟩⟩
  have hd : ∀ g ∈ fa ++ fb, g ∉ fpR := fun g hg hm => by
    have := (hin g hg).1
    have := (hM.fresh.2 g hm).2
    omega
  obtain ⟨fp', hM2, _⟩ := hM'.step (SendO.lasts d) hrow hS rfl ⟨List.nodup_append.2 ⟨hfa.1, hfb.1, fun x hx y hy e => by subst e; exact hab x hx hy⟩, fun g hg => ⟨Nat.le_trans hBw (hin g hg).1, Nat.lt_of_lt_of_le (hin g hg).2 hq.size⟩⟩ hd (by rw [hl]; exact ho) hg hat
  have hxs : (ts.take (j + 1)).map (sendOf d) = (ts.take j).map (sendOf d) ++ [⟨a, b⟩] := by
    rw [List.take_succ_eq_append_getElem hj, List.map_append]
    have := (List.getElem?_eq_some_iff.1 hx).2
    simp [this, hs]
  exact ⟨fp', by rw [hxs]; exact hM2, (hb.trans (hwq.mono hBw)).grown hg (Nat.le_trans hBw hwq.size) (fun k hk => (hobk k hk).1)⟩

/-- What the model's SendsOf answers. -/
def SmRes (d : Nat) (k : Int) (ts : List (Tm (d + 1 + 1))) (w : World) (e : Ending) (w' : World) : Prop :=
  ∃ (a : Option Addr) (n c : Nat) (ok : Bool) (l : List (DSend d)), e = .returned (.tuple #[.slice a n c, .bool ok]) ∧ Hid (SendsT d k ts ok l ∧ RowOf 8 (SendR d) w' (.slice a n c) l ∧ l.length = n) ∧ Below w.heap.size w w'

theorem eight_one (i0 i1 i4 i5 : Int) (s2 s6 : ByteArray) (a3 a7 : Option Addr) (l3 c3 l7 c7 : Nat) : ∀ u ∈ ([.int .i64 i0, .int .i64 i1, .string s2, .slice a3 l3 c3, .int .i64 i4, .int .i64 i5, .string s6, .slice a7 l7 c7] : List Value), u.oneCell' = true := by
  intro u hu
  simp only [List.mem_cons, List.not_mem_nil, or_false] at hu
  rcases hu with rfl | rfl | rfl | rfl | rfl | rfl | rfl | rfl <;> rfl
theorem cell_same {w w' : World} {b : Nat} (h : w'.heap[b]? = w.heap[b]?) (o : Nat) : w'.cell? ⟨b, o, none⟩ = w.cell? ⟨b, o, none⟩ := by
  simp [World.cell?, h]
theorem no_sends {d : Nat} {w : World} {a : Option Addr} {c : Nat} : RowOf 8 (SendR d) w (.slice a 0 c) ([] : List (DSend d)) := ⟨a, c, rfl, fun i x h => by simp at h⟩

set_option maxRecDepth 100000 in
set_option maxHeartbeats 4000000 in
theorem specSendsOf_any (d : Nat) (k n : Int) (s : ByteArray) (a : Option Addr) (l c : Nat) (ts : List (Tm (d + 1 + 1))) (w : World) (hr : RdL (d + 1 + 1) w (.slice a l c) ts) (hw : WfL (d + 1 + 1) ts) (hfw : FewL (d + 1 + 1) ts) (hl : ts.length = l) (hl1 : l ≤ 1048576) :
    Calls Try.prog 7 #[.agg #[.int .i64 k, .int .i64 n, .string s, .slice a l c]] w fun e w' => SmRes d k ts w e w' := by
  obtain ⟨j0, hj, hj0, hj1, hj2⟩ := info_parts Try.infoSend
  obtain ⟨W, hW⟩ : ∃ W, W = (w.alloc (.cells #[.int .i64 k, .int .i64 n, .string s, .slice a l c] 26)).alloc (.cells #[] 33) := ⟨_, rfl⟩
  have hA : Below w.heap.size w W := by rw [hW]; exact ((Below.refl _ _).alloc (Nat.le_refl _) _).alloc (by simp) _
  have hWs : W.heap.size = w.heap.size + 1 + 1 := by rw [hW]; simp
  have nA : W.heap[w.heap.size]? = some (.cells #[.int .i64 k, .int .i64 n, .string s, .slice a l c] 26 (0, 0)) := by
    rw [hW]
    rw [Below.heap_alloc _ _ _ (by simp)]
    exact heap_alloc_new w _
  have nE : W.heap[w.heap.size + 1]? = some (.cells #[] 33 (0, 0)) := by
    rw [hW, show w.heap.size + 1 = (w.alloc (.cells #[.int .i64 k, .int .i64 n, .string s, .slice a l c] 26)).heap.size from by simp]; exact heap_alloc_new _ _
  have HI0 : Hid (MoI d ts (w.heap.size + 1) W (.slice (some ⟨w.heap.size + 1, 0, none⟩) 0 0) W 0) := ⟨_, MadeR.empty nE (Nat.le_refl _), Below.refl _ _⟩
  have HTS : Hid (RdL (d + 1 + 1) w (.slice a l c) ts ∧ WfL (d + 1 + 1) ts ∧ FewL (d + 1 + 1) ts ∧ ts.length = l) := ⟨hr, hw, hfw, hl⟩
  have HWB : Hid (Below w.heap.size w W ∧ W.heap[w.heap.size]? = some (.cells #[.int .i64 k, .int .i64 n, .string s, .slice a l c] 26 (0, 0)) ∧ W.heap.size = w.heap.size + 1 + 1 ∧ W = _) := ⟨hA, nA, hWs, hW⟩
  by_cases hk5 : k = 5
  case neg =>
    have hkb : (k != 5) = true := by simp [hk5]
    have HF : Hid (¬ (k = 5 ∧ ∀ x ∈ ts, ¬ NoS d x)) := fun h => hk5 h.1
    have HA : Hid (Below w.heap.size w W) := hA
    rw [hW] at HA
    clear hk5 hr hw hfw hl hA nA nE hW HI0
    go_enter Try.func7, Try.ntmps7
    go_wp2_with fail
    refine bodyPost_ret (v := .tuple #[.slice (some ⟨w.heap.size + 1, 0, none⟩) 0 0, .bool false]) (by first | (simp [results, Try.results7, go_sem]; done) | (simp [results, Try.results7, go_sem]; rfl)) rfl ⟨_, 0, 0, false, [], rfl, ⟨.inr ⟨rfl, HF.out, rfl⟩, no_sends, rfl⟩, HA.out⟩
  have hkb : (k != 5) = false := by simp [hk5]
  have HK5 : Hid (k = 5) := hk5
  have x0 : W.cell? ⟨w.heap.size, 0, none⟩ = some (.int .i64 k) := by rw [cell_of_row W _ 0 _ _ _ nA]; rfl
  clear hk5 hr hw hfw hl hA nA nE hWs
  go_enter Try.func7, Try.ntmps7
  go_wp2_with fail
  rw [← hW]
  clear hW x0
  go_loopw [4, 5] (fun v i wr => ∃ j : Nat, j ≤ l ∧ i = .int .i64 j ∧ Hid (MoI d ts (w.heap.size + 1) W v wr j) ∧ Hid (∀ (i : Nat) (x : Tm (d + 1 + 1)), i < j → ts[i]? = some x → ¬ NoS d x)) (fun _ i _ => l - (intOf i).toNat)
  case atStart => exact ⟨0, Nat.zero_le _, rfl, HI0.out, fun i x h => absurd h (Nat.not_lt_zero _)⟩
  case round =>
    obtain ⟨j, hj', rfl, HI, HNO⟩ := hrel
    clear HI0
    have hbw : Below (w.heap.size + 1) W wr := HI.out.choose_spec.2
    have nR := (hbw.block _ (Nat.lt_succ_self _)).trans HWB.out.2.1
    have HBWR : Hid (Below w.heap.size w wr) := HWB.out.1.trans (hbw.mono (Nat.le_succ _))
    have d3 : wr.cell? ⟨w.heap.size, 3, none⟩ = some (.slice a l c) := by rw [cell_of_row wr _ 3 _ _ _ nR]; rfl
    have hwr1 : w.heap.size + 1 ≤ wr.heap.size := by have := hbw.size; have := HWB.out.2.2.1; omega
    have HWR1 : Hid (w.heap.size + 1 ≤ wr.heap.size) := hwr1
    clear hbw nR hwr1
    by_cases hjl : j < l
    · obtain ⟨x, hx⟩ : ∃ x, ts[j]? = some x := ⟨_, List.getElem?_eq_getElem (by rw [HTS.out.2.2.2]; exact hjl)⟩
      obtain ⟨b, o, la, ll, lc, rfl, q0, q1, q2, q3, lv, elv, hxr⟩ := terms_at HTS.out.1 j x hx
      have elv' : lv = .slice la ll lc := by simpa using elv.symm
      subst elv'
      have y0 := cell_later HBWR.out q0
      have y1 := cell_later HBWR.out q1
      have y2 := cell_later HBWR.out q2
      have y3 := cell_later HBWR.out q3
      have hll : x.L.length = ll := by
        obtain ⟨a9, c9, e9⟩ := hxr.len1
        simp only [Value.slice.injEq] at e9
        exact e9.2.1.symm
      have HX : Hid (ts[j]? = some x ∧ RdL (d + 1) w (.slice la ll lc) x.L ∧ x.L.length = ll) := ⟨hx, hxr, hll⟩
      obtain ⟨XK, hXK⟩ : ∃ y, x.K = y := ⟨_, rfl⟩
      obtain ⟨XN, hXN⟩ : ∃ y, x.N = y := ⟨_, rfl⟩
      obtain ⟨XS, hXS⟩ : ∃ y, x.S = y := ⟨_, rfl⟩
      have HXE : Hid (x.K = XK ∧ x.N = XN ∧ x.S = XS) := ⟨hXK, hXN, hXS⟩
      rw [hXK] at y0
      rw [hXN] at y1
      rw [hXS] at y2
      have hjl' : (j : Int) < (l : Int) := by omega
      have HBE : Hid (Below w.heap.size w ((wr.alloc (.cells #[.int .i64 XK, .int .i64 XN, .string XS, .slice la ll lc] 26)).alloc (.cells #[] 33))) := (HBWR.out.alloc HBWR.out.size _).alloc (by have := HBWR.out.size; simp; omega) _
      clear hx hxr hll elv q0 q1 q2 q3 hXK hXN hXS
      have HBAD : Hid (NoS d x → ¬ (k = 5 ∧ ∀ x ∈ ts, ¬ NoS d x)) := fun h1 h2 => h2.2 x (List.mem_of_getElem? HX.out.1) h1
      by_cases hk4 : XK = 4
      case neg =>
        have hk4b : (XK != 4) = true := by simp [hk4]
        have HF : Hid (¬ (k = 5 ∧ ∀ x ∈ ts, ¬ NoS d x)) := HBAD.out (.inl (by rw [HXE.out.1]; exact hk4))
        clear hk4 HI HNO
        go_wp2_with fail
        refine bodyPost_ret (v := .tuple #[.slice (some ⟨wr.heap.size + 1, 0, none⟩) 0 0, .bool false]) (by first | (simp [results, Try.results7, go_sem]; done) | (simp [results, Try.results7, go_sem]; rfl)) rfl ⟨_, 0, 0, false, [], rfl, ⟨.inr ⟨rfl, HF.out, rfl⟩, no_sends, rfl⟩, HBE.out⟩
      have hk4b : (XK != 4) = false := by simp [hk4]
      by_cases hl2 : ll = 2
      case neg =>
        have hl2b : ((ll : Int) != 2) = true := by simp; omega
        have HF : Hid (¬ (k = 5 ∧ ∀ x ∈ ts, ¬ NoS d x)) := HBAD.out (.inr (.inl (by rw [HX.out.2.2]; exact hl2)))
        clear hk4 hl2 HI HNO
        go_wp2_with fail
        refine bodyPost_ret (v := .tuple #[.slice (some ⟨wr.heap.size + 1, 0, none⟩) 0 0, .bool false]) (by first | (simp [results, Try.results7, go_sem]; done) | (simp [results, Try.results7, go_sem]; rfl)) rfl ⟨_, 0, 0, false, [], rfl, ⟨.inr ⟨rfl, HF.out, rfl⟩, no_sends, rfl⟩, HBE.out⟩
      subst hl2
      obtain ⟨xa, xb, hL⟩ : ∃ p q : Tm (d + 1), x.L = [p, q] := by
        have h2 := HX.out.2.2
        revert h2
        generalize x.L = l
        intro h2
        match l, h2 with
        | [p, q], _ => exact ⟨p, q, rfl⟩
      have hxr := HX.out.2.1
      rw [hL] at hxr
      obtain ⟨b2, o2, aa, la2, ca, rfl, p0, p1, p2, p3, va, ea, hra⟩ := terms_at hxr 0 xa rfl
      obtain ⟨b3, o3, ab, lb2, cb, e3, p4, p5, p6, p7, vb, eb, hrb⟩ := terms_at hxr 1 xb rfl
      obtain ⟨rfl, rfl⟩ : b2 = b3 ∧ o2 = o3 := by simpa using e3
      have ea' : va = .slice aa la2 ca := by simpa using ea.symm
      have eb' : vb = .slice ab lb2 cb := by simpa using eb.symm
      subst ea' eb'
      have HP : Hid (w.cell? ⟨b2, o2, none⟩ = some (.int .i64 xa.K) ∧ w.cell? ⟨b2, o2 + 1, none⟩ = some (.int .i64 xa.N) ∧ w.cell? ⟨b2, o2 + 2, none⟩ = some (.string xa.S) ∧ w.cell? ⟨b2, o2 + 3, none⟩ = some (.slice aa la2 ca) ∧ w.cell? ⟨b2, o2 + 4, none⟩ = some (.int .i64 xb.K) ∧ w.cell? ⟨b2, o2 + 4 + 1, none⟩ = some (.int .i64 xb.N) ∧ w.cell? ⟨b2, o2 + 4 + 2, none⟩ = some (.string xb.S) ∧ w.cell? ⟨b2, o2 + 4 + 3, none⟩ = some (.slice ab lb2 cb)) :=
        ⟨by simpa using p0, by simpa using p1, by simpa using p2, by simpa using p3, by simpa using p4, by simpa using p5, by simpa using p6, by simpa using p7⟩
      have HRR : Hid (RdL d w (.slice aa la2 ca) xa.L ∧ RdL d w (.slice ab lb2 cb) xb.L) := ⟨hra, hrb⟩
      obtain ⟨w2, hw2⟩ : ∃ W, W = wr.alloc (.cells #[.int .i64 XK, .int .i64 XN, .string XS, .slice (some ⟨b2, o2, none⟩) 2 lc] 26) := ⟨_, rfl⟩
      have hbA : Below wr.heap.size wr w2 := by rw [hw2]; exact (Below.refl _ _).alloc (Nat.le_refl _) _
      have nb2 : w2.heap[wr.heap.size]? = some (.cells #[.int .i64 XK, .int .i64 XN, .string XS, .slice (some ⟨b2, o2, none⟩) 2 lc] 26 (0, 0)) := by rw [hw2]; exact heap_alloc_new wr _
      have z0 := cell_later hbA (cell_later HBWR.out HP.out.1)
      rw [hw2] at z0
      have HW2 : Hid (w2 = _ ∧ Below wr.heap.size wr w2 ∧ w2.heap[wr.heap.size]? = _) := ⟨hw2, hbA, nb2⟩
      clear hw2 hbA nb2
      have hl2b : ((2 : Nat) : Int) = 2 := rfl
      have hL0 : x.L[0]? = some xa := by rw [hL]; rfl
      clear p0 p1 p2 p3 p4 p5 p6 p7 ea eb e3 hra hrb hxr
      have HLX : Hid (x.L = [xa, xb]) := hL
      clear hL
      by_cases hgood : xa.K = 2 ∨ xa.K = 3
      case neg =>
        have hg2 : (xa.K != 2) = true := by simp; exact fun h => hgood (.inl h)
        have hg3 : (xa.K != 3) = true := by simp; exact fun h => hgood (.inr h)
        have HF : Hid (¬ (k = 5 ∧ ∀ x ∈ ts, ¬ NoS d x)) := HBAD.out (.inr (.inr ⟨xa, hL0, fun h => hgood (.inl h), fun h => hgood (.inr h)⟩))
        clear hk4 hL0 hgood HI HNO
        go_wp2_with fail
        refine bodyPost_ret (v := .tuple #[.slice (some ⟨wr.heap.size + 1, 0, none⟩) 0 0, .bool false]) (by first | (simp [results, Try.results7, go_sem]; done) | (simp [results, Try.results7, go_sem]; rfl)) rfl ⟨_, 0, 0, false, [], rfl, ⟨.inr ⟨rfl, HF.out, rfl⟩, no_sends, rfl⟩, HBE.out⟩
      have HGD : Hid (¬ NoS d x) := by
        rintro (g | g | ⟨y, gy, g2, g3⟩)
        · exact g (HXE.out.1.trans hk4)
        · exact g HX.out.2.2
        · have := hL0.symm.trans gy
          cases this
          rcases hgood with h | h
          · exact g2 h
          · exact g3 h
      obtain ⟨pa, pb, hL2, hsx⟩ := good_open HGD.out
      obtain ⟨rfl, rfl⟩ : pa = xa ∧ pb = xb := by
        have := HLX.out.symm.trans hL2
        simpa using this.symm
      obtain ⟨fa1, fa2⟩ : WfL d pa.L ∧ WfL d pb.L := by
        have h1 := HTS.out.2.1.2 x (List.mem_of_getElem? HX.out.1)
        have h2 := h1.2.2.2
        rw [HLX.out] at h2
        exact ⟨(h2.2 pa (by simp)).2.2.2, (h2.2 pb (by simp)).2.2.2⟩
      obtain ⟨fw1, fw2⟩ : FewL d pa.L ∧ FewL d pb.L := by
        have h2 := HTS.out.2.2.1.2 x (List.mem_of_getElem? HX.out.1)
        rw [HLX.out] at h2
        exact ⟨h2.2 pa (by simp), h2.2 pb (by simp)⟩
      have HC1 : Hid (∀ V : World, Below w2.heap.size w2 V → Calls Try.prog 17 #[.agg #[.int .i64 pa.K, .int .i64 pa.N, .string pa.S, .slice aa la2 ca]] V fun e w' => ∃ a1 l1 c1 f1, e = .returned (.agg #[.int .i64 pa.K, .int .i64 pa.N, .string pa.S, .slice a1 l1 c1]) ∧ Hid (OwnL d w' (.slice a1 l1 c1) pa.L f1 ∧ Fresh V.heap.size w' f1) ∧ Below V.heap.size V w') := fun V hV => by
        refine (l2Copy_any d pa.K pa.N pa.S _ pa.L V ((HRR.out.1.later HBWR.out).later (HW2.out.2.1.trans (hV.mono HW2.out.2.1.size))) fa1 fw1).mono ?_
        rintro e w' ⟨a1, l1, c1, fp, rfl, hM, hB⟩
        obtain ⟨_, _, _, f1, e1, h1, h2, _⟩ := hM.out.own
        exact ⟨a1, l1, c1, f1, rfl, ⟨h1, ⟨h2.1, fun g hg => ⟨by have := (h2.2 g hg).1; omega, (h2.2 g hg).2⟩⟩⟩, hB⟩
      have HC2 : Hid (∀ V : World, Below w2.heap.size w2 V → Calls Try.prog 17 #[.agg #[.int .i64 pb.K, .int .i64 pb.N, .string pb.S, .slice ab lb2 cb]] V fun e w' => ∃ a1 l1 c1 f1, e = .returned (.agg #[.int .i64 pb.K, .int .i64 pb.N, .string pb.S, .slice a1 l1 c1]) ∧ Hid (OwnL d w' (.slice a1 l1 c1) pb.L f1 ∧ Fresh V.heap.size w' f1) ∧ Below V.heap.size V w') := fun V hV => by
        refine (l2Copy_any d pb.K pb.N pb.S _ pb.L V ((HRR.out.2.later HBWR.out).later (HW2.out.2.1.trans (hV.mono HW2.out.2.1.size))) fa2 fw2).mono ?_
        rintro e w' ⟨a1, l1, c1, fp, rfl, hM, hB⟩
        obtain ⟨_, _, _, f1, e1, h1, h2, _⟩ := hM.out.own
        exact ⟨a1, l1, c1, f1, rfl, ⟨h1, ⟨h2.1, fun g hg => ⟨by have := (h2.2 g hg).1; omega, (h2.2 g hg).2⟩⟩⟩, hB⟩
      have HSK : Hid (∀ V : World, Below w2.heap.size w2 V → V.cell? ⟨wr.heap.size, 3, none⟩ = some (.slice (some ⟨b2, o2, none⟩) 2 lc) ∧ V.cell? ⟨b2, o2, none⟩ = some (.int .i64 pa.K) ∧ V.cell? ⟨b2, o2 + 1, none⟩ = some (.int .i64 pa.N) ∧ V.cell? ⟨b2, o2 + 2, none⟩ = some (.string pa.S) ∧ V.cell? ⟨b2, o2 + 3, none⟩ = some (.slice aa la2 ca) ∧ V.cell? ⟨b2, o2 + 4, none⟩ = some (.int .i64 pb.K) ∧ V.cell? ⟨b2, o2 + 4 + 1, none⟩ = some (.int .i64 pb.N) ∧ V.cell? ⟨b2, o2 + 4 + 2, none⟩ = some (.string pb.S) ∧ V.cell? ⟨b2, o2 + 4 + 3, none⟩ = some (.slice ab lb2 cb)) := fun V hV => by
        have hb := HBWR.out.trans ((HW2.out.2.1.trans (hV.mono HW2.out.2.1.size)).mono HBWR.out.size)
        have m1 := (hV.block _ (lt_row HW2.out.2.2)).trans HW2.out.2.2
        obtain ⟨p0, p1, p2, p3, p4, p5, p6, p7⟩ := HP.out
        exact ⟨by rw [cell_of_row V _ 3 _ _ _ m1]; rfl, cell_later hb p0, cell_later hb p1, cell_later hb p2, cell_later hb p3, cell_later hb p4, cell_later hb p5, cell_later hb p6, cell_later hb p7⟩
      obtain ⟨ua, ul, uc, rfl⟩ : ∃ ua ul uc, u4 = .slice ua ul uc := by
        obtain ⟨fpR, hM, _⟩ := HI.out
        obtain ⟨cs, hrow⟩ := hM.row
        rcases hrow.2 with ⟨e, _⟩ | ⟨g', c', cur', e, _⟩
        · exact ⟨_, _, _, e⟩
        · exact ⟨_, _, _, e⟩
      have HNX : Hid (∀ (V1 V2 : World) (a1 : Option Addr) (l1 c1 : Nat) (f1 : List Nat) (a2 : Option Addr) (l2 c2 : Nat) (f2 : List Nat), Below w2.heap.size w2 V1 → Below V1.heap.size V1 V2 → (OwnL d V1 (.slice a1 l1 c1) pa.L f1 ∧ Fresh w2.heap.size V1 f1) → (OwnL d V2 (.slice a2 l2 c2) pb.L f2 ∧ Fresh V1.heap.size V2 f2) →
          ∃ cs : List Value, (V2.alloc (.cells #[.int .i64 pa.K, .int .i64 pa.N, .string pa.S, .slice a1 l1 c1, .int .i64 pb.K, .int .i64 pb.N, .string pb.S, .slice a2 l2 c2] 33)).ownsRow (w.heap.size + 1) 33 8 (.slice ua ul uc) j cs ∧ w.heap.size + 1 ≤ (V2.alloc (.cells #[.int .i64 pa.K, .int .i64 pa.N, .string pa.S, .slice a1 l1 c1, .int .i64 pb.K, .int .i64 pb.N, .string pb.S, .slice a2 l2 c2] 33)).heap.size ∧ ∀ (v' : Value) (w3 : World), w3.ownsRow (w.heap.size + 1) 33 8 v' (j + 1) (cs ++ [.int .i64 pa.K, .int .i64 pa.N, .string pa.S, .slice a1 l1 c1, .int .i64 pb.K, .int .i64 pb.N, .string pb.S, .slice a2 l2 c2]) → (V2.alloc (.cells #[.int .i64 pa.K, .int .i64 pa.N, .string pa.S, .slice a1 l1 c1, .int .i64 pb.K, .int .i64 pb.N, .string pb.S, .slice a2 l2 c2] 33)).grownBy w3 (Value.slice ua ul uc).ownBlock → (v'.ownBlock = (Value.slice ua ul uc).ownBlock ∨ v'.ownBlock = some (V2.alloc (.cells #[.int .i64 pa.K, .int .i64 pa.N, .string pa.S, .slice a1 l1 c1, .int .i64 pb.K, .int .i64 pb.N, .string pb.S, .slice a2 l2 c2] 33)).heap.size) → Hid (MoI d ts (w.heap.size + 1) W v' w3 (j + 1)) ∧ (w3.cell? ⟨wr.heap.size, 3, none⟩ = some (.slice (some ⟨b2, o2, none⟩) 2 lc) ∧ w3.cell? ⟨b2, o2, none⟩ = some (.int .i64 pa.K) ∧ w3.cell? ⟨b2, o2 + 1, none⟩ = some (.int .i64 pa.N) ∧ w3.cell? ⟨b2, o2 + 2, none⟩ = some (.string pa.S) ∧ w3.cell? ⟨b2, o2 + 3, none⟩ = some (.slice aa la2 ca) ∧ w3.cell? ⟨b2, o2 + 4, none⟩ = some (.int .i64 pb.K) ∧ w3.cell? ⟨b2, o2 + 4 + 1, none⟩ = some (.int .i64 pb.N) ∧ w3.cell? ⟨b2, o2 + 4 + 2, none⟩ = some (.string pb.S) ∧ w3.cell? ⟨b2, o2 + 4 + 3, none⟩ = some (.slice ab lb2 cb))) := fun V1 V2 a1 l1 c1 f1 a2 l2 c2 f2 h1 h12 ho1 ho2 => by
        have hs2 := lt_row HW2.out.2.2
        have hwV1 := HW2.out.2.1.trans (h1.mono HW2.out.2.1.size)
        have hwV2 := hwV1.trans (h12.mono hwV1.size)
        have hWq : Below V2.heap.size V2 (V2.alloc (.cells #[.int .i64 pa.K, .int .i64 pa.N, .string pa.S, .slice a1 l1 c1, .int .i64 pb.K, .int .i64 pb.N, .string pb.S, .slice a2 l2 c2] 33)) := (Below.refl _ _).alloc (Nat.le_refl _) _
        have hz1 := h1.size
        have hz2 := h12.size
        obtain ⟨cs, hr1, hr2, hr3⟩ := HI.out.next HX.out.1 hsx HWR1.out hwV2 (ho1.1.frame fun g hg => h12.block g (ho1.2.2 g hg).2) ho2.1 ⟨ho1.2.1, fun g hg => ⟨by have := (ho1.2.2 g hg).1; omega, Nat.lt_of_lt_of_le (ho1.2.2 g hg).2 hz2⟩⟩ ⟨ho2.2.1, fun g hg => ⟨by have := (ho2.2.2 g hg).1; omega, (ho2.2.2 g hg).2⟩⟩ (fun g hg hg2 => by have := (ho1.2.2 g hg).2; have := (ho2.2.2 g hg2).1; omega) hWq
        refine ⟨cs, hr1, Nat.le_trans HWR1.out (Nat.le_trans hwV2.size hWq.size), fun v' w3 q1 q2 q3 => ⟨hr3 v' w3 q1 q2 q3, ?_⟩⟩
        have hwq := hwV2.trans (hWq.mono hwV2.size)
        have hlow : ∀ g, g < w.heap.size → w3.heap[g]? = w.heap[g]? := fun g hg => (q2.block g (by have := hwq.size; have := HWR1.out; omega) (fun e => by have := (hr2 g e.symm).1; omega)).trans ((hwq.block g (by have := HWR1.out; omega)).trans (HBWR.out.block g hg))
        have hbx : w3.heap[wr.heap.size]? = _ := (q2.block _ (by have := hWq.size; omega) (fun e => by have := (hr2 _ e.symm).2; omega)).trans (((h1.trans (h12.mono h1.size)).trans (hWq.mono (by omega))).block _ hs2 |>.trans HW2.out.2.2)
        obtain ⟨p0, p1, p2, p3, p4, p5, p6, p7⟩ := HP.out
        have hcell : ∀ (o : Nat) (u : Value), w.cell? ⟨b2, o, none⟩ = some u → w3.cell? ⟨b2, o, none⟩ = some u := fun o u hu => by
          have hlt : b2 < w.heap.size := by simpa using World.block_lt_of_cell? w _ hu
          rw [← hu]
          exact cell_same (hlow b2 hlt) o
        exact ⟨by rw [cell_of_row w3 _ 3 _ _ _ hbx]; rfl, hcell _ _ p0, hcell _ _ p1, hcell _ _ p2, hcell _ _ p3, hcell _ _ p4, hcell _ _ p5, hcell _ _ p6, hcell _ _ p7⟩
      obtain ⟨sk3, sk0, sk1, sk2, skl, sk4, sk5, sk6, sk7⟩ := HSK.out w2 (Below.refl _ _)
      have HJ1 : Hid (j + 1 ≤ maxLen) := by show _ ≤ _; unfold maxLen; omega
      have HJ2 : Hid ((j + 1) * 112 ≤ 140737488355328) := by show _ ≤ _; omega
      have HNN : Hid (∀ (i : Nat) (y : Tm (d + 1 + 1)), i < j + 1 → ts[i]? = some y → ¬ NoS d y) := fun i y hi hy => by
        rcases Nat.lt_or_ge i j with u | u
        · exact HNO.out i y u hy
        · obtain rfl : i = j := by omega
          have := HX.out.1.symm.trans hy
          cases this
          exact HGD.out
      have HG2 : Hid ((pa.K != 2) = false ∨ ((pa.K != 2) = true ∧ (pa.K != 3) = false)) := by
        rcases hgood with h | h
        · exact .inl (by simp [h])
        · exact .inr ⟨by simp [h], by simp [h]⟩
      have HXI : Hid (x.K = x.K) := rfl
      clear hL2 hsx fa1 fa2 fw1 fw2 hgood HI HNO hL0 hk4
      rcases HG2.out with hg2 | ⟨hg2, hg3⟩
      all_goals
        go_wp2_with fail
        rw [← HW2.out.1]
        go_region_held_law (fun V => V.cell? ⟨wr.heap.size, 3, none⟩ = some (.slice (some ⟨b2, o2, none⟩) 2 lc) ∧ V.cell? ⟨b2, o2, none⟩ = some (.int .i64 pa.K) ∧ V.cell? ⟨b2, o2 + 1, none⟩ = some (.int .i64 pa.N) ∧ V.cell? ⟨b2, o2 + 2, none⟩ = some (.string pa.S) ∧ V.cell? ⟨b2, o2 + 3, none⟩ = some (.slice aa la2 ca) ∧ V.cell? ⟨b2, o2 + 4, none⟩ = some (.int .i64 pb.K) ∧ V.cell? ⟨b2, o2 + 4 + 1, none⟩ = some (.int .i64 pb.N) ∧ V.cell? ⟨b2, o2 + 4 + 2, none⟩ = some (.string pb.S) ∧ V.cell? ⟨b2, o2 + 4 + 3, none⟩ = some (.slice ab lb2 cb)) (first | (with_reducible assumption) | (with_reducible exact HSK.out _ (Below.refl _ _).drew) | (with_reducible exact HSK.out _ hY2.drew) | (with_reducible exact HSK.out _ hY1.drew) | (with_reducible exact HSK.out _ (hY2.alloc hY2.size _)) | (with_reducible exact HSK.out _ (hY2.alloc hY2.size _).drew)) (first
          | (go_at_call 17; (with_reducible refine (HC1.out _ ?_).mono ?_); (next => (first | exact Below.refl _ _ | exact (Below.refl _ _).drew)); rintro e V1 ⟨a1, l1, c1, f1, rfl, HO1, hB1⟩; have hY1 : Below w2.heap.size w2 V1 := (by first | exact hB1 | exact (Below.refl _ _).drew.trans hB1); have hk1 := HSK.out V1 hY1)
          | (go_at_call 17; (with_reducible refine (HC2.out _ ?_).mono ?_); (next => (first | exact hY1 | exact hY1.drew)); rintro e V2 ⟨a2, l2, c2, f2, rfl, HO2, hB2⟩; have hY12 : Below V1.heap.size V1 V2 := (by first | exact hB2 | exact (Below.refl _ _).drew.trans hB2); have hY2 : Below w2.heap.size w2 V2 := hY1.trans (hY12.mono hY1.size); have hk2 := HSK.out V2 hY2; obtain ⟨cs, hown, hJ3, happ⟩ := HNX.out V1 V2 a1 l1 c1 f1 a2 l2 c2 f2 hY1 hY12 HO1.out HO2.out)
          | (refine step_append_own rfl (.tmp 50) (.tmp 62) 28 rfl (w.heap.size + 1) 33 j0 (.agg #[.int .i64 0, .int .i64 0, .string ⟨#[]⟩, .slice none 0 0, .int .i64 0, .int .i64 0, .string ⟨#[]⟩, .slice none 0 0]) 8 112 Try.underlying28 hj hj0 hj1 hj2 rfl (by decide) (.slice ua ul uc) j cs (by simp [Act.eval]) hown ⟨V2.heap.size, 0, none⟩ 1 1 [.int .i64 pa.K, .int .i64 pa.N, .string pa.S, .slice a1 l1 c1, .int .i64 pb.K, .int .i64 pb.N, .string pb.S, .slice a2 l2 c2] (by simp [Act.eval]) rfl (eight_new V2 (.int .i64 pa.K) (.int .i64 pa.N) (.string pa.S) (.slice a1 l1 c1) (.int .i64 pb.K) (.int .i64 pb.N) (.string pb.S) (.slice a2 l2 c2) 33) (eight_one pa.K pa.N pb.K pb.N pa.S pb.S a1 a2 l1 c1 l2 c2) HJ1.out HJ2.out hJ3 ?_; intro v' w3 hown3 hgrow3 hat3; obtain ⟨HN, hsk3⟩ := happ _ _ hown3 hgrow3 hat3))
        all_goals
          have HNF : Hid _ := HN
          clear HN
          go_wp2_with fail
          go_roundw
          case rel => exact ⟨j + 1, by omega, by go_num, HNF.out, HNN.out⟩
          case measure => simp [intOf]; omega
    · obtain rfl : l = j := by omega
      have hjl' : decide ((l : Int) < (l : Int)) = false := by simp
      have HE : Hid (∃ (a : Option Addr) (n c : Nat), u4 = .slice a n c ∧ RowOf 8 (SendR d) wr (.slice a n c) (ts.map (sendOf d)) ∧ (ts.map (sendOf d)).length = n) := by
        obtain ⟨fpR, hM, hb⟩ := HI.out
        have e : ts.take l = ts := List.take_of_length_le (by rw [HTS.out.2.2.2]; exact Nat.le_refl _)
        rw [e] at hM
        obtain ⟨a3, l3, c3, fp3, rfl, hO, hF⟩ := hM.own
        exact ⟨a3, l3, c3, rfl, hO.rd (SendO.reads d), own_row_len hO⟩
      have HALL : Hid (∀ x ∈ ts, ¬ NoS d x) := fun x hx => by
        obtain ⟨i, hi⟩ := List.getElem?_of_mem hx
        exact HNO.out i x (by have := (List.getElem?_eq_some_iff.1 hi).1; have := HTS.out.2.2.2; omega) hi
      obtain ⟨a3, n3, c3, rfl, hE⟩ := HE.out
      have HE2 : Hid _ := hE
      clear HE hE HI HNO
      go_wp2_with fail
      refine bodyPost_ret (v := .tuple #[.slice a3 n3 c3, .bool true]) (by first | (simp [results, Try.results7, go_sem]; done) | (simp [results, Try.results7, go_sem]; rfl)) rfl ⟨a3, n3, c3, true, _, rfl, ⟨.inl ⟨rfl, HK5.out, HALL.out, rfl⟩, HE2.out.1, HE2.out.2⟩, HBWR.out⟩

end Go.Proofs.Ytegfbpidlopfoaa
