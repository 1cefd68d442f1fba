/- The program's samePats, whole. -/
import Derived.Test.YtahmbnokjfkfiaaSc5
import Derived.Test.YtahmbnokjfkfiaaRLaw
import Derived.Deep.RegionHeldLaw
import Derived.BigRegion
namespace Go.Proofs.Ytahmbnokjfkfiaa
open Go.RowKit
set_option linter.unusedVariables false

/-- One step of it where two lists are put to what is to come. -/
theorem PsAt.put {d : Nat} {W : World} {p : Nat} {xs ys : List (Tm (d + 1))} {fps gps : List (List Nat)} {R : Nat} {Q : Prop} {K : List (Nat × Obj)} {j : Nat} {x y : Tm (d + 1)} {ha hb : Nat} {t u : List Nat} {v3 u3 tv : Value} {met nu nu' R' : Nat} {pv uv : Value} {f f' : Addr → Int → Option Value} {fs : List Tg} {Q' : Prop} {w' : World}
    (hL : LgG W p met nu f fs ((fps.drop j).flatten ++ (gps.drop j).flatten) (((xs.drop j).map (wkP (d + 1))).sum) R' Q') (hR : R' + ((xs.drop j).map (wkP (d + 1))).sum ≤ R + (xs.map (wkP (d + 1))).sum) (hQ : Q' ↔ xs.take j = ys.take j ∧ Q)
    (hx : xs[j]? = some x) (hy : ys[j]? = some y) (e1 : fps[j]? = some (ha :: t)) (e2 : gps[j]? = some (hb :: u)) (o1 : OwnRow 4 59 (PatO d) W v3 x.L (ha :: t)) (o2 : OwnRow 4 59 (PatO d) W u3 y.L (hb :: u)) (hK : x.K = y.K) (hN : x.N = y.N) (hS : x.S = y.S) (hl : x.L.length = y.L.length) (z1 : szRow (szPatD d) x.L ≤ 1048576) (z2 : szRow (szPatD d) y.L ≤ 1048576)
    (hnu : nu' ≤ 2 * (met + 1)) (hf : ∀ x n v, f' x n = some v → f x n = some v ∨ x.block = ha ∨ x.block = hb) (hSv : Sv 87 89 W w' p (met + 1) nu' pv uv tv f' ((v3, u3) :: fs) K) : PsAt (d + 1) W p xs ys fps gps R Q K (j + 1) tv w' := by
  have hd := drop_sumG (f := wkP (d + 1)) hx
  have hw : wkP (d + 1) x = 4 + (x.L.map (wkP d)).sum := rfl
  have hT : TG W (v3, u3) (t ++ u) (1 + (x.L.map (wkP d)).sum) (x.L = y.L) := ⟨d, x.L, y.L, _, _, o1, o2, hl, z1, z2, rfl, rfl, Iff.rfl⟩
  have hL2 : LgG W p met nu f fs ((ha :: t) ++ (hb :: u) ++ ((fps.drop (j + 1)).flatten ++ (gps.drop (j + 1)).flatten)) (((xs.drop j).map (wkP (d + 1))).sum) R' Q' := hL.less (Nat.le_refl _) (fun g => by rw [drop_flatG e1, drop_flatG e2]; simp only [List.count_append]; omega)
  refine ⟨met + 1, nu', pv, uv, f', _, _, _, hSv, hL2.push hT (E' := ((xs.drop (j + 1)).map (wkP (d + 1))).sum) (by omega) hnu hf, by omega, ?_⟩
  rw [hQ]
  have hxy : x = y ↔ x.L = y.L := ⟨fun e => by rw [e], fun e => Pt.ext hK hN hS e⟩
  constructor
  · rintro ⟨q1, q2, q3⟩; exact ⟨take_sameW hx hy q2 (hxy.2 q1), q3⟩
  · rintro ⟨q1, q3⟩
    refine ⟨hxy.1 ?_, ?_, q3⟩
    · have := congrArg (fun l => l[j]?) q1
      simp only [List.getElem?_take_of_lt (Nat.lt_succ_self j)] at this
      rw [hx, hy] at this
      exact Option.some.inj this
    · have := congrArg (List.take j) q1
      rwa [List.take_take, List.take_take, Nat.min_eq_left (by omega)] at this

theorem oi_start (d : Nat) (w W V : World) (v1 v2 : Value) (xs ys : List (Tm d)) (f1 f2 : List Nat) (hW : W = w.alloc (.cells #[.int .i64 0, .map none, .slice none 0 0] 87)) (hV : V = W.alloc (.cells #[v1, v2] 89)) (o1 : OwnRow 4 59 (PatO d) w v1 xs f1) (o2 : OwnRow 4 59 (PatO d) w v2 ys f2) (hnd : ∀ g, (f1 ++ f2).count g ≤ 1) (hlt : ∀ g ∈ f1 ++ f2, g < w.heap.size) (z1 : szRow (szPatD d) xs ≤ 1048576) (z2 : szRow (szPatD d) ys ≤ 1048576) (hl : xs.length = ys.length) :
    OI W w.heap.size (xs = ys) (.slice (some ⟨w.heap.size + 1, 0, none⟩) 1 1) V (1 + (xs.map (wkP d)).sum) ∧ 1 + (xs.map (wkP d)).sum ≤ 16777216 ∧ (∀ wr, Kept w.heap.size (w.heap.size + 1) W wr → Below w.heap.size w wr) ∧ w.heap.size < W.heap.size ∧ W.heap.size = w.heap.size + 1 := by
  have hWs : W.heap.size = w.heap.size + 1 := by rw [hW]; simp
  have hWb : Below w.heap.size w W := by rw [hW]; exact (Below.refl _ _).alloc (Nat.le_refl _) _
  have nA : W.heap[w.heap.size]? = some (.cells #[.int .i64 0, .map none, .slice none 0 0] 87 (0, 0)) := by rw [hW]; exact heap_alloc_new w _
  have hVb : Below W.heap.size W V := by rw [hV]; exact (Below.refl _ _).alloc (Nat.le_refl _) _
  have nB : V.heap[W.heap.size]? = some (.cells #[v1, v2] 89 (0, 0)) := by rw [hV]; exact heap_alloc_new W _
  have hb := sum_leG (f := wkP d) (g := szPatD d) (c := 4) (wkP_le d) (by omega) xs
  have hsv : Sv 87 89 W V w.heap.size 0 0 (.map none) (.slice none 0 0) (.slice (some ⟨w.heap.size + 1, 0, none⟩) 1 1) (fun _ _ => none) [(v1, v2)] [] := by
    refine ⟨Kept.of_below hVb, by omega, by decide, (hVb.block _ (by omega)).trans nA, .inl ⟨rfl, fun _ _ => rfl⟩, ⟨[], rfl, .inl ⟨rfl, rfl⟩⟩, ?_, fun x n v h => (by cases h), fun q hq => (by cases hq)⟩
    refine ⟨rfl, .inr ⟨w.heap.size + 1, 1, #[v1, v2], rfl, by omega, by rw [← hWs]; exact nB, by simp, by decide, rfl, rfl⟩⟩
  have o1' := o1.frame (PatO.lasts d) (w' := W) fun g hg => hWb.block g (hlt g (List.mem_append_left _ hg))
  have o2' := o2.frame (PatO.lasts d) (w' := W) fun g hg => hWb.block g (hlt g (List.mem_append_right _ hg))
  have htl : ∀ (l : List Nat) g, l.tail.count g ≤ l.count g := fun l g => by
    cases l with
    | nil => exact Nat.le_refl _
    | cons a l => simp only [List.tail_cons, List.count_cons]; omega
  have hmt : ∀ (l : List Nat) g, g ∈ l.tail → g ∈ l := fun l g hg => List.mem_of_mem_tail hg
  refine ⟨⟨0, 0, _, _, _, _, _, hsv, ⟨(f1.tail ++ f2.tail) ++ [], ⟨_, _, _, _, _, _, ⟨d, xs, ys, f1, f2, o1', o2', hl, z1, z2, rfl, rfl, Iff.rfl⟩, ⟨rfl, rfl, trivial⟩, rfl, rfl, Iff.rfl⟩, Nat.le_refl _, by omega, fun g => ?_, fun g hg => ?_, fun x n v h => (by cases h)⟩, ⟨fun h => h.1, fun h => ⟨h, trivial⟩⟩⟩, by omega, fun wr hk => low_of hk hWb (Nat.le_refl _), by omega, hWs⟩
  · have := hnd g
    have h1 := htl f1 g
    have h2 := htl f2 g
    simp only [List.nil_append, List.append_nil, List.count_append] at this ⊢
    omega
  · simp only [List.nil_append, List.append_nil, List.mem_append] at hg
    have : g < w.heap.size := hlt g (List.mem_append.2 (hg.imp (hmt _ _) (hmt _ _)))
    omega

set_option maxRecDepth 100000 in
set_option maxHeartbeats 8000000 in
theorem samePats_any (d0 : Nat) (w : World) (v1 v2 : Value) (xs0 ys0 : List (Tm d0)) (f1 f2 : List Nat) (o1 : OwnRow 4 59 (PatO d0) w v1 xs0 f1) (o2 : OwnRow 4 59 (PatO d0) w v2 ys0 f2) (hnd : ∀ g, (f1 ++ f2).count g ≤ 1) (hlt : ∀ g ∈ f1 ++ f2, g < w.heap.size) (z1 : szRow (szPatD d0) xs0 ≤ 1048576) (z2 : szRow (szPatD d0) ys0 ≤ 1048576) :
    Calls Try.prog 27 #[v1, v2] w fun e w' => ∃ r : Bool, e = .returned (.bool r) ∧ Hid (r = true ↔ xs0 = ys0) ∧ Below w.heap.size w w' := by
  have n1 : xs0.length ≤ szRow (szPatD d0) xs0 := Nat.le_add_right _ _
  have n2 : ys0.length ≤ szRow (szPatD d0) ys0 := Nat.le_add_right _ _
  by_cases hl : xs0.length = ys0.length
  case neg =>
    obtain ⟨a3, c3, rfl⟩ := own_lenG o1
    obtain ⟨b3, d3, rfl⟩ := own_lenG o2
    have hne : ((xs0.length : Int) != (ys0.length : Int)) = true := by simp; omega
    have HF : Hid (¬ xs0 = ys0) := fun e => hl (by rw [e])
    have m1 : xs0.length ≤ 1048576 := by omega
    have m2 : ys0.length ≤ 1048576 := by omega
    obtain ⟨l1, hl1⟩ : ∃ l, xs0.length = l := ⟨_, rfl⟩
    obtain ⟨l2, hl2⟩ : ∃ l, ys0.length = l := ⟨_, rfl⟩
    rw [hl1] at hne m1 ⊢
    rw [hl2] at hne m2 ⊢
    clear o1 o2 hnd hlt z1 z2 n1 n2 hl hl1 hl2
    go_enter Try.func27, Try.ntmps27
    go_wp2_with fail
    go_ret
    exact ⟨false, rfl, ⟨fun e => (by cases e), fun e => absurd e HF.out⟩, Below.refl _ _⟩
  obtain ⟨W, hW⟩ : ∃ W, W = w.alloc (.cells #[.int .i64 0, .map none, .slice none 0 0] 87) := ⟨_, rfl⟩
  obtain ⟨V, hV⟩ : ∃ V, V = W.alloc (.cells #[v1, v2] 89) := ⟨_, rfl⟩
  obtain ⟨hOI, hRb, hlow, hpW, hWs⟩ := oi_start d0 w W V v1 v2 xs0 ys0 f1 f2 hW hV o1 o2 hnd hlt z1 z2 hl
  obtain ⟨EQ, hEQ⟩ : ∃ P : Prop, (xs0 = ys0) = P := ⟨_, rfl⟩
  rw [hEQ] at hOI ⊢
  obtain ⟨p, hp⟩ : ∃ p, p = w.heap.size := ⟨_, rfl⟩
  rw [← hp] at hOI hlow hpW hWs
  have H0 : Hid (∃ R, OI W p EQ (.slice (some ⟨p + 1, 0, none⟩) 1 1) V R ∧ R ≤ 16777216) := ⟨_, hOI, hRb⟩
  have HLOW : Hid (∀ wr, Kept p (p + 1) W wr → Below w.heap.size w wr) := by rw [← hp]; exact hlow
  have hrowp : W.heap[p]? = some (.cells #[.int .i64 0, .map none, .slice none 0 0] 87 (0, 0)) := by rw [hW, hp]; exact heap_alloc_new w _
  have HNE : Hid (∀ (g : Nat) (cur : Array Value), W.heap[g]? = some (.cells cur 59 (0, 0)) → g ≠ p) := fun g cur hg e => by
    rw [e, hrowp] at hg; simp only [Option.some.injEq, Obj.cells.injEq] at hg; exact absurd hg.2.1 (by decide)
  rw [hW] at hV
  have HV : Hid (V = _) := hV
  have HP : Hid (p = w.heap.size) := hp
  obtain ⟨μ', hμ'⟩ := least_workG (fun s c m => OI W p EQ s c m)
  obtain ⟨μ, hμe⟩ : ∃ μ : Value → World → Nat, μ = μ' := ⟨_, rfl⟩
  have HMU : Hid (∀ s c m, OI W p EQ s c m → OI W p EQ s c (μ s c) ∧ μ s c ≤ m) := fun s c m h => by rw [hμe]; exact hμ' s c m h
  obtain ⟨a3, c3, rfl⟩ := own_lenG o1
  obtain ⟨b3, d3, rfl⟩ := own_lenG o2
  have m1 : xs0.length ≤ 1048576 := by omega
  rw [← hl] at HV ⊢
  have hne : ((xs0.length : Int) != (xs0.length : Int)) = false := by simp
  obtain ⟨l1, hl1⟩ : ∃ l, xs0.length = l := ⟨_, rfl⟩
  rw [hl1] at m1 HV hne ⊢
  clear o1 o2 hnd hlt z1 z2 n1 n2 hl hl1 hW hV hOI hRb hlow hp hμ' hμe hEQ hrowp
  go_enter Try.func27, Try.ntmps27
  go_wp2_with fail
  rw [← HV.out, ← HP.out]
  clear HV
  go_loopw [6] (fun s wr => Hid (∃ R, OI W p EQ s wr R ∧ R ≤ 16777216)) (fun s wr => μ s wr)
  case atStart => exact H0.out
  case round =>
    clear H0
    obtain ⟨R0, hR0, hRb⟩ := hrel.out
    have hM := (HMU.out _ _ _ hR0).1
    have hM2 := (HMU.out _ _ _ hR0).2
    obtain ⟨R, hRe⟩ : ∃ R, μ u6 wr = R := ⟨_, rfl⟩
    rw [hRe] at hM hM2
    have HWE : Hid (μ u6 wr = R ∧ R ≤ 16777216) := ⟨hRe, by omega⟩
    clear hrel hR0 hRe hM2 hRb
    obtain ⟨met, nu, pv, uv, f, fs, Q, hS, hL, hQ⟩ := hM
    cases fs with
    | nil =>
      obtain ⟨ta, tc, rfl⟩ := hS.done
      have HF : Hid (EQ ∧ Below w.heap.size w wr) := by
        obtain ⟨rs, ⟨_, _, q⟩, _⟩ := hL
        exact ⟨hQ.1 q, HLOW.out _ hS.kept⟩
      clear hS hL hQ
      go_wp2_with fail
      go_ret
      exact ⟨true, rfl, ⟨fun _ => HF.out.1, fun _ => rfl⟩, HF.out.2⟩
    | cons fr fs =>
      obtain ⟨g, c, rfl, hg, hc, t0, t1⟩ := hS.top
      obtain ⟨va, vb⟩ := fr
      obtain ⟨rem, R1, Q1, R2, Q2, hT, hL2, hRR, hQQ⟩ := hL.pop
      obtain ⟨d, xs, ys, fa, fb, oa, ob, hlen, z1, z2, hrem, hR1, hQ1⟩ := hT
      obtain ⟨aa, ca, fps, ea, hfa, hXe⟩ := own_each oa
      obtain ⟨ab, cb, gps, eb, hfb, hYe⟩ := own_each ob
      simp only [] at ea eb
      subst ea eb
      rw [← hlen] at t1
      obtain ⟨len, hle⟩ : ∃ l, xs.length = l := ⟨_, rfl⟩
      have HLX : Hid (xs.length = len ∧ ys.length = len) := ⟨hle, by omega⟩
      have hn1 : xs.length ≤ szRow (szPatD d) xs := Nat.le_add_right _ _
      have hl1' : len ≤ 1048576 := by omega
      have hpop := hS.popped
      obtain ⟨n, hn⟩ : ∃ n, fs.length = n := ⟨_, rfl⟩
      have hfew := hL.few
      simp only [List.length_cons] at hfew
      rw [hn] at hc t0 t1 hfew hpop HWE ⊢
      simp only [] at t0 t1
      rw [hle] at t0 t1
      obtain ⟨X, hX⟩ : ∃ X, X = wr.alloc (.cells #[.slice aa len ca, .slice ab len cb] 89) := ⟨_, rfl⟩
      have hkp := hpop.keep _ hX (.cells #[.slice aa len ca, .slice ab len cb] 89 (0, 0)) (by rw [hX]; exact heap_alloc_new wr _)
      obtain ⟨B, hB⟩ : ∃ B : Obj, B = (.cells #[.slice aa len ca, .slice ab len cb] 89 (0, 0)) := ⟨_, rfl⟩
      obtain ⟨bx, hbx⟩ : ∃ b, b = wr.heap.size := ⟨_, rfl⟩
      rw [← hB, ← hbx] at hkp
      have HBX : Hid (B = _) := hB
      have HBN : Hid (bx = wr.heap.size) := hbx
      have HST : Hid (PsAt d W p xs ys fps gps R2 Q2 [(bx, B)] 0 (.slice (some ⟨g, 0, none⟩) n c) X) := ⟨met, nu, pv, uv, f, fs, R2, Q2, hkp, by rw [hrem, hfa, hfb, hR1, Nat.add_sub_cancel_left] at hL2; exact hL2, Nat.le_refl _, by simp⟩
      have HDONE : Hid (∀ s wx, PsAt d W p xs ys fps gps R2 Q2 [(bx, B)] len s wx → ∃ R', OI W p EQ s wx R' ∧ R' < R) := fun s wx h => by
        obtain ⟨met', nu', pv', uv', f', fs', R', Q', k1, k2, k3, k4⟩ := h
        refine ⟨R', ⟨met', nu', pv', uv', f', fs', Q', k1.drop (fun q hq => by cases hq), k2.less (Nat.zero_le _) (fun g => by simp), ?_⟩, ?_⟩
        · rw [k4, ← hQ, hQQ, hQ1, List.take_of_length_le (by omega), List.take_of_length_le (by omega)]
        · omega
      have HBAD : Hid (¬ xs = ys → ¬ EQ) := fun h e => h (hQ1.1 (hQQ.1 (hQ.2 e)).1)
      have HZ : Hid (szRow (szPatD d) xs ≤ 1048576 ∧ szRow (szPatD d) ys ≤ 1048576) := ⟨z1, z2⟩
      have HX : Hid _ := hXe
      have HY : Hid _ := hYe
      have HXA : Hid (X = _) := hX
      clear hS hL hL2 hQ hQQ hRR hQ1 hR1 hrem oa ob hlen z1 z2 hfa hfb hXe hYe hle hn1 hpop hkp hX hB hn hbx
      go_wp2_with fail
      rw [← HXA.out, ← HBN.out]
      clear HXA t0 t1
      go_loopw [6, 39] (fun s i wx => ∃ j : Nat, j ≤ len ∧ i = .int .i64 j ∧ Hid (PsAt d W p xs ys fps gps R2 Q2 [(bx, B)] j s wx)) (fun s i _ => len - (intOf i).toNat)
      case atStart => exact ⟨0, Nat.zero_le _, rfl, HST⟩
      case round =>
        clear HST
        obtain ⟨j, hj, rfl, HJ⟩ := hrel
        obtain ⟨met, nu, pv, uv, f, fs, R', Q', hS, hLg, hR, hQ⟩ := HJ.out
        have hbx := (hS.ext _ (List.mem_cons_self ..)).1
        rw [HBX.out] at hbx
        have b0 : wr.cell? ⟨bx, 0, none⟩ = some (.slice aa len ca) := by rw [cell_of_row wr _ 0 _ _ _ hbx]; rfl
        have b1 : wr.cell? ⟨bx, 1, none⟩ = some (.slice ab len cb) := by rw [cell_of_row wr _ 1 _ _ _ hbx]; rfl
        clear hbx
        by_cases hjl : j < len
        case neg =>
          obtain rfl : j = len := by omega
          have HN : Hid (∃ R', OI W p EQ u6 wr R' ∧ R' < R) := HDONE.out _ _ HJ.out
          have hjl' : decide ((j : Int) < (j : Int)) = false := by simp
          clear hS hLg hR hQ HJ b0 b1
          go_wp2_with fail
          go_roundw
          case rel =>
            obtain ⟨R', q1, q2⟩ := HN.out
            exact ⟨R', q1, by have := HWE.out.2; omega⟩
          case measure =>
            obtain ⟨R', q1, q2⟩ := HN.out
            have h1 := (HMU.out _ _ _ q1).2
            have h2 := HWE.out.1
            omega
        obtain ⟨x, hx⟩ : ∃ t, xs[j]? = some t := ⟨_, List.getElem?_eq_getElem (by rw [HLX.out.1]; exact hjl)⟩
        obtain ⟨y, hy⟩ : ∃ t, ys[j]? = some t := ⟨_, List.getElem?_eq_getElem (by rw [HLX.out.2]; exact hjl)⟩
        obtain ⟨ga, cua, vs, fx, rfl, hHa, e1, e2, e3, e4⟩ := HX.out j x hx
        obtain ⟨gb, cub, us, fy, rfl, hHb, e5, e6, e7, e8⟩ := HY.out j y hy
        obtain ⟨d, rfl⟩ : ∃ d', d = d' + 1 := by
          cases d with
          | zero => exact e4.elim
          | succ d => exact ⟨d, rfl⟩
        obtain ⟨v3, fx', rfl, rfl, oa⟩ := e4
        obtain ⟨u3, fy', rfl, rfl, ob⟩ := e8
        have hgap : ga ≠ p := HNE.out _ _ hHa
        have hgbp : gb ≠ p := HNE.out _ _ hHb
        have HHG : Hid (W.heap[ga]? = some (.cells cua 59 (0, 0)) ∧ W.heap[gb]? = some (.cells cub 59 (0, 0)) ∧ ga ≠ p ∧ gb ≠ p) := ⟨hHa, hHb, hgap, hgbp⟩
        have hza := Nat.le_trans (szRow_mem hx) HZ.out.1
        have hzb := Nat.le_trans (szRow_mem hy) HZ.out.2
        have hza' : x.S.size + szRow (szPatD d) x.L ≤ 1048576 := hza
        have hzb' : y.S.size + szRow (szPatD d) y.L ≤ 1048576 := hzb
        have hna : x.L.length ≤ szRow (szPatD d) x.L := Nat.le_add_right _ _
        have hnb : y.L.length ≤ szRow (szPatD d) y.L := Nat.le_add_right _ _
        obtain ⟨xa, xc, rfl⟩ := own_lenG oa
        obtain ⟨ya, yc, rfl⟩ := own_lenG ob
        have HCA : Hid (∀ V : World, V.heap[ga]? = W.heap[ga]? → V.cell? ⟨ga, j * 4, none⟩ = some (.int .i64 x.K) ∧ V.cell? ⟨ga, j * 4 + 1, none⟩ = some (.int .i64 x.N) ∧ V.cell? ⟨ga, j * 4 + 2, none⟩ = some (.string x.S) ∧ V.cell? ⟨ga, j * 4 + 3, none⟩ = some (.slice xa x.L.length xc)) := fun V hV => by
          have hr := hV.trans hHa
          exact ⟨by rw [cell_of_row V _ _ _ _ _ hr]; exact e3 0 _ rfl, by rw [cell_of_row V _ _ _ _ _ hr]; exact e3 1 _ rfl, by rw [cell_of_row V _ _ _ _ _ hr]; exact e3 2 _ rfl, by rw [cell_of_row V _ _ _ _ _ hr]; exact e3 3 _ rfl⟩
        have HCB : Hid (∀ V : World, V.heap[gb]? = W.heap[gb]? → V.cell? ⟨gb, j * 4, none⟩ = some (.int .i64 y.K) ∧ V.cell? ⟨gb, j * 4 + 1, none⟩ = some (.int .i64 y.N) ∧ V.cell? ⟨gb, j * 4 + 2, none⟩ = some (.string y.S) ∧ V.cell? ⟨gb, j * 4 + 3, none⟩ = some (.slice ya y.L.length yc)) := fun V hV => by
          have hr := hV.trans hHb
          exact ⟨by rw [cell_of_row V _ _ _ _ _ hr]; exact e7 0 _ rfl, by rw [cell_of_row V _ _ _ _ _ hr]; exact e7 1 _ rfl, by rw [cell_of_row V _ _ _ _ _ hr]; exact e7 2 _ rfl, by rw [cell_of_row V _ _ _ _ _ hr]; exact e7 3 _ rfl⟩
        obtain ⟨k1, hk1⟩ : ∃ k, x.K = k := ⟨_, rfl⟩
        obtain ⟨m1', hm1⟩ : ∃ k, x.N = k := ⟨_, rfl⟩
        obtain ⟨s1, hs1⟩ : ∃ k, x.S = k := ⟨_, rfl⟩
        obtain ⟨l3, hl3⟩ : ∃ k, x.L.length = k := ⟨_, rfl⟩
        obtain ⟨k2, hk2⟩ : ∃ k, y.K = k := ⟨_, rfl⟩
        obtain ⟨m2', hm2⟩ : ∃ k, y.N = k := ⟨_, rfl⟩
        obtain ⟨s2, hs2⟩ : ∃ k, y.S = k := ⟨_, rfl⟩
        obtain ⟨m3, hm3⟩ : ∃ k, y.L.length = k := ⟨_, rfl⟩
        have HNM : Hid (x.K = k1 ∧ x.N = m1' ∧ x.S = s1 ∧ x.L.length = l3 ∧ y.K = k2 ∧ y.N = m2' ∧ y.S = s2 ∧ y.L.length = m3) := ⟨hk1, hm1, hs1, hl3, hk2, hm2, hs2, hm3⟩
        have HOA : Hid (OwnRow 4 59 (PatO d) W (.slice xa l3 xc) x.L _ ∧ OwnRow 4 59 (PatO d) W (.slice ya m3 yc) y.L _) := ⟨by rw [← hl3]; exact oa, by rw [← hm3]; exact ob⟩
        have HE : Hid (xs[j]? = some x ∧ ys[j]? = some y ∧ fps[j]? = some _ ∧ gps[j]? = some _) := ⟨hx, hy, e1, e5⟩
        have HZZ : Hid (szRow (szPatD d) x.L ≤ 1048576 ∧ szRow (szPatD d) y.L ≤ 1048576) := ⟨by omega, by omega⟩
        rw [hk1, hm1, hs1, hl3] at HCA
        rw [hk2, hm2, hs2, hm3] at HCB
        have q3 : l3 ≤ 1048576 := by omega
        have r3 : m3 ≤ 1048576 := by omega
        clear hk1 hm1 hs1 hl3 hk2 hm2 hs2 hm3 hza hzb hza' hzb' hna hnb oa ob e1 e2 e3 e5 e6 e7 hx hy
        have HSV : Hid (Sv 87 89 W wr p met nu pv uv u6 f fs [(bx, B)]) := hS
        have HLG : Hid (LgG W p met nu f fs ((fps.drop j).flatten ++ (gps.drop j).flatten) (((xs.drop j).map (wkP (d + 1))).sum) R' Q' ∧ R' + ((xs.drop j).map (wkP (d + 1))).sum ≤ R2 + (xs.map (wkP (d + 1))).sum ∧ (Q' ↔ xs.take j = ys.take j ∧ Q2)) := ⟨hLg, hR, hQ⟩
        obtain ⟨x0, x1, x2, x3⟩ := HCA.out wr ((hS.at hHa hgap).trans hHa.symm)
        obtain ⟨y0, y1, y2, y3⟩ := HCB.out wr ((hS.at hHb hgbp).trans hHb.symm)
        have hjl' : (j : Int) < (len : Int) := by omega
        clear hS hLg hR hQ hHa hHb hgap hgbp
        go_wp2_with fail
        go_cut [9, 10] (fun a b wx => a = .pointer (some ⟨ga, j * 4, none⟩) ∧ b = .pointer (some ⟨gb, j * 4, none⟩) ∧ Below wr.heap.size wr wx)
        case first =>
          go_quiet (fail)
          go_wp2_with fail
          go_meet
          case rel => exact ⟨rfl, rfl, below_drewN (Below.refl _ _) _⟩
        case rest =>
          obtain ⟨rfl, rfl, hbc⟩ := hcut
          obtain ⟨w0, hw0⟩ : ∃ w, w = wc := ⟨_, rfl⟩
          rw [← hw0] at hbc ⊢
          have HB0 : Hid (Below wr.heap.size wr w0) := hbc
          have x0 := cell_later hbc x0
          have x1 := cell_later hbc x1
          have x2 := cell_later hbc x2
          have x3 := cell_later hbc x3
          have y0 := cell_later hbc y0
          have y1 := cell_later hbc y1
          have y2 := cell_later hbc y2
          have y3 := cell_later hbc y3
          clear hbc hw0 b0 b1
          go_wp2_with fail
          by_cases hh : k1 = k2 ∧ m1' = m2' ∧ s1 = s2 ∧ l3 = m3
          case neg =>
            have HF : Hid (¬ EQ) := HBAD.out (unlike_atW HE.out.1 HE.out.2.1 (fun e => hh (by
              obtain ⟨i1, i2, i3, i4, i5, i6, i7, i8⟩ := HNM.out
              rw [← i1, ← i2, ← i3, ← i4, ← i5, ← i6, ← i7, ← i8, e]
              exact ⟨rfl, rfl, rfl, rfl⟩)))
            have HFB : Hid (Below w.heap.size w w0) := HLOW.out _ (HSV.out.later HB0.out).kept
            go_cut [93] (fun v wx => v = .bool true ∧ Below w0.heap.size w0 wx)
            case first =>
              by_cases h0 : k1 = k2
              · subst h0
                by_cases h1 : m1' = m2'
                · subst h1
                  by_cases h2 : s1 = s2
                  · subst h2
                    have h3' : ((l3 : Int) != (m3 : Int)) = true := by simp; exact fun e => hh ⟨rfl, rfl, rfl, by omega⟩
                    clear hh
                    go_quiet (fail)
                    go_wp2_with fail
                    go_meet
                    case rel => exact ⟨rfl, below_drewN (Below.refl _ _) _⟩
                  · have h2' : (s1.toList == s2.toList) = false := by rw [beq_eq_false_iff_ne]; exact fun e => h2 (str_same0 e)
                    clear hh q3 r3
                    go_quiet (fail)
                    go_wp2_with fail
                    go_meet
                    case rel => exact ⟨rfl, below_drewN (Below.refl _ _) _⟩
                · have h1' : (m1' != m2') = true := by simp; exact h1
                  clear hh q3 r3
                  go_quiet (fail)
                  go_wp2_with fail
                  go_meet
                  case rel => exact ⟨rfl, below_drewN (Below.refl _ _) _⟩
              · have h0' : (k1 != k2) = true := by simp; exact h0
                clear hh q3 r3
                go_quiet (fail)
                go_wp2_with fail
                go_meet
                case rel => exact ⟨rfl, below_drewN (Below.refl _ _) _⟩
            case rest =>
              obtain ⟨rfl, hbc⟩ := hcut
              have HFB2 : Hid (Below w.heap.size w wc) := HFB.out.trans (hbc.mono HFB.out.size)
              clear hbc x0 x1 x2 x3 y0 y1 y2 y3
              go_wp2_with fail
              go_ret
              exact ⟨false, rfl, ⟨fun e => (by cases e), fun e => absurd e HF.out⟩, HFB2.out⟩
          obtain ⟨rfl, rfl, rfl, rfl⟩ := hh
          go_cut [93] (fun v wx => v = .bool false ∧ Below w0.heap.size w0 wx)
          case first =>
            go_quiet (fail)
            go_wp2_with fail
            go_meet
            case rel => exact ⟨rfl, below_drewN (Below.refl _ _) _⟩
          case rest =>
            obtain ⟨rfl, hbc⟩ := hcut
            obtain ⟨w1, hw1⟩ : ∃ w, w = wc := ⟨_, rfl⟩
            rw [← hw1] at hbc ⊢
            have HB1 : Hid (Below wr.heap.size wr w1) := HB0.out.trans (hbc.mono HB0.out.size)
            have HS1 : Hid (Sv 87 89 W w1 p met nu pv uv u6 f fs [(bx, B)]) := HSV.out.later HB1.out
            clear hbc hw1 x0 x1 x2 x3 y0 y1 y2 y3
            have hAt : ∀ (V : World) (met' nu' : Nat) (pv' uv' tv' : Value) (f' : Addr → Int → Option Value) (fs' : List Tg) (K : List (Nat × Obj)), Sv 87 89 W V p met' nu' pv' uv' tv' f' fs' K → V.heap[ga]? = W.heap[ga]? ∧ V.heap[gb]? = W.heap[gb]? := fun V met' nu' pv' uv' tv' f' fs' K hV => ⟨(hV.at HHG.out.1 HHG.out.2.2.1).trans HHG.out.1.symm, (hV.at HHG.out.2.1 HHG.out.2.2.2).trans HHG.out.2.1.symm⟩
            have HAT : Hid _ := hAt
            clear hAt
            have z3 := (HCA.out w1 (HAT.out _ _ _ _ _ _ _ _ _ HS1.out).1).2.2.2
            have v3 := (HCB.out w1 (HAT.out _ _ _ _ _ _ _ _ _ HS1.out).2).2.2.2
            by_cases hl0 : l3 = 0
            · have hJ0 : Hid (∀ V : World, _) := fun V => takenP_none p xa l3 xc ya l3 yc V (.inl hl0) q3 q3
              rw [decide_eq_true rfl] at hJ0
              have HXY : Hid (x = y) := by
                obtain ⟨i1, i2, i3, i4, i5, i6, i7, i8⟩ := HNM.out
                exact Pt.ext (i1.trans i5.symm) (i2.trans i6.symm) (i3.trans i7.symm) (by rw [List.length_eq_zero_iff.1 (i4.trans hl0), List.length_eq_zero_iff.1 (i8.trans hl0)])
              have HNX : Hid (∀ V : World, Below w1.heap.size w1 V → PsAt (d + 1) W p xs ys fps gps R2 Q2 [(bx, B)] (j + 1) u6 V) := fun V hV => HJ.out.skip HE.out.1 HE.out.2.1 HE.out.2.2.1 HE.out.2.2.2 HXY.out (HB1.out.trans (hV.mono HB1.out.size))
              clear hl0
              go_wp2_with fail
              have hn0 := After.some w1
              have r3 := After.cell z3
              have s3 := After.cell v3
              refine wp_region_after_tail 9 (by kernel_rfl) (by kernel_rfl) ?_
              simp only [List.take_succ_cons, List.take_zero, List.drop_succ_cons, List.drop_zero]
              repeat (go_big_quiet_step (fail))
              refine wpQuiet_nil ?_
              rintro _ ⟨nq, rfl⟩
              go_wp2_with fail
              refine (hJ0.out nq.now).mono ?_
              rintro e V2 ⟨rfl, rfl⟩
              have HN : Hid _ := HNX.out nq.now nq.bel
              clear HNX hJ0 r3 s3 hn0 z3 v3
              go_wp2_with fail
              go_roundw
              case rel => exact ⟨j + 1, by omega, by go_num, HN⟩
              case measure => simp [intOf]; omega
            · have hl0' : 0 < l3 := by omega
              have hnm := HNM.out
              obtain ⟨ha, ca', cuA, eA, hHa, hf1⟩ := own_fullG HOA.out.1 (by omega)
              obtain ⟨hb, cb', cuB, eB, hHb, hf2⟩ := own_fullG HOA.out.2 (by omega)
              simp only [Value.slice.injEq] at eA eB
              obtain ⟨rfl, hqA, rfl⟩ := eA
              obtain ⟨rfl, hqB, rfl⟩ := eB
              clear hqA hqB
              have hE := HE.out
              have hOA := HOA.out
              rw [hf1, hf2] at hE hOA
              have hLf := HLG.out.1.less (ext' := (ha :: fx.tail) ++ (hb :: fy.tail) ++ ((fps.drop (j + 1)).flatten ++ (gps.drop (j + 1)).flatten)) (Nat.le_refl _) (fun g => by rw [drop_flatG hE.2.2.1, drop_flatG hE.2.2.2]; simp only [List.count_append]; omega)
              obtain ⟨r1, r2, r4, r5, r6, r7, r8⟩ := hLf.fresh
              have hfs : fs.length ≤ 16777216 := HLG.out.1.few
              have HJ1 : Hid (∀ V : World, Below w1.heap.size w1 V → _) := fun V hV => takenP_new (HS1.out.later hV) ha l3 xc hb l3 yc hl0' hl0' q3 q3 cuA cuB _ _ hHa hHb r1 r2 r4 r5 r6 r7 r8
              have HPT : Hid (∀ (nu' : Nat) (pv' uv' tv' : Value) (f' : Addr → Int → Option Value) (V : World), nu' ≤ 2 * (met + 1) → (∀ x n v, f' x n = some v → f x n = some v ∨ x.block = ha ∨ x.block = hb) → Sv 87 89 W V p (met + 1) nu' pv' uv' tv' f' ((.slice (some ⟨ha, 0, none⟩) l3 xc, .slice (some ⟨hb, 0, none⟩) l3 yc) :: fs) [(bx, B)] → PsAt (d + 1) W p xs ys fps gps R2 Q2 [(bx, B)] (j + 1) tv' V) := fun nu' pv' uv' tv' f' V h1 h2 h3 => PsAt.put HLG.out.1 HLG.out.2.1 HLG.out.2.2 hE.1 hE.2.1 hE.2.2.1 hE.2.2.2 hOA.1 hOA.2 (hnm.1.trans hnm.2.2.2.2.1.symm) (hnm.2.1.trans hnm.2.2.2.2.2.1.symm) (hnm.2.2.1.trans hnm.2.2.2.2.2.2.1.symm) (by omega) HZZ.out.1 HZZ.out.2 h1 h2 h3
              have HLT : Hid (ha < W.heap.size ∧ hb < W.heap.size) := ⟨lt_row hHa, lt_row hHb⟩
              clear hnm hHa hHb hf1 hf2 hE hOA hLf r1 r2 r4 r5 r6 r7 r8 hl0
              go_wp2_with fail
              have hn0 := After.some w1
              have r3 := After.cell z3
              have s3 := After.cell v3
              refine wp_region_after_tail 9 (by kernel_rfl) (by kernel_rfl) ?_
              simp only [List.take_succ_cons, List.take_zero, List.drop_succ_cons, List.drop_zero]
              repeat (go_big_quiet_step (fail))
              refine wpQuiet_nil ?_
              rintro _ ⟨nq, rfl⟩
              go_wp2_with fail
              refine (HJ1.out nq.now nq.bel).mono ?_
              clear HJ1
              rintro e w2 ⟨rfl, HQ⟩
              obtain ⟨nu1, pv1, uv1, f1, hS2, hnu, hf⟩ := HQ.out
              have HS2 : Hid (Sv 87 89 W w2 p (met + 1) nu1 pv1 uv1 u6 f1 fs [(bx, B)]) := hS2
              have HFN : Hid (nu1 ≤ 2 * (met + 1) ∧ ∀ x n v, f1 x n = some v → f x n = some v ∨ x.block = ha ∨ x.block = hb) := ⟨hnu, hf⟩
              have z3 := (HCA.out w2 (HAT.out _ _ _ _ _ _ _ _ _ HS2.out).1).2.2.2
              have v3 := (HCB.out w2 (HAT.out _ _ _ _ _ _ _ _ _ HS2.out).2).2.2.2
              have hrow := hS2.todo
              have hp2 : p < w2.heap.size := Nat.lt_of_lt_of_le hS2.plt hS2.kept.size
              have hz2 : W.heap.size ≤ w2.heap.size := hS2.kept.size
              have hgaw : ga < w2.heap.size := Nat.lt_of_lt_of_le (lt_row HHG.out.1) hz2
              have hgbw : gb < w2.heap.size := Nat.lt_of_lt_of_le (lt_row HHG.out.2.1) hz2
              obtain ⟨tva, tvl, tvc, rfl⟩ := own_sliceG hrow
              clear HQ hS2 r3 s3 hn0 hnu hf
              obtain ⟨j0, hj', hj0, hj1, hj2⟩ := info_parts Try.infoTwoP
              have HAP : Hid (∀ (v' : Value) (w3 : World), w3.ownsRow W.heap.size 89 2 v' (fs.length + 1) (gcells fs ++ [.slice (some ⟨ha, 0, none⟩) l3 xc, .slice (some ⟨hb, 0, none⟩) l3 yc]) → (w2.alloc (.cells #[.slice (some ⟨ha, 0, none⟩) l3 xc, .slice (some ⟨hb, 0, none⟩) l3 yc] 89)).drew.grownBy w3 (Value.slice tva tvl tvc).ownBlock → (v'.ownBlock = (Value.slice tva tvl tvc).ownBlock ∨ v'.ownBlock = some (w2.alloc (.cells #[.slice (some ⟨ha, 0, none⟩) l3 xc, .slice (some ⟨hb, 0, none⟩) l3 yc] 89)).drew.heap.size) → PsAt (d + 1) W p xs ys fps gps R2 Q2 [(bx, B)] (j + 1) v' w3) := fun v' w3 h1 h2 h3 => by
                have hL := HS2.out.later ((Below.refl _ _).alloc (Nat.le_refl _) (.cells #[.slice (some ⟨ha, 0, none⟩) l3 xc, .slice (some ⟨hb, 0, none⟩) l3 yc] 89)).drew
                exact HPT.out _ _ _ _ _ _ HFN.out.1 HFN.out.2 (hL.pushed (fr := (_, _)) h1 h2 h3)
              have hE3 : w2.cell? ⟨ga, j * 4 + 3, none⟩ = some (.slice (some ⟨ha, 0, none⟩) l3 xc) ∧ w2.cell? ⟨gb, j * 4 + 3, none⟩ = some (.slice (some ⟨hb, 0, none⟩) l3 yc) := ⟨z3, v3⟩
              have HSK : Hid (∀ V : World, Below w2.heap.size w2 V → V.cell? ⟨ga, j * 4 + 3, none⟩ = some (.slice (some ⟨ha, 0, none⟩) l3 xc) ∧ V.cell? ⟨gb, j * 4 + 3, none⟩ = some (.slice (some ⟨hb, 0, none⟩) l3 yc)) := fun V hV => ⟨cell_later hV z3, cell_later hV v3⟩
              have HSG : Hid (∀ V : World, (w2.alloc (.cells #[.slice (some ⟨ha, 0, none⟩) l3 xc, .slice (some ⟨hb, 0, none⟩) l3 yc] 89)).drew.grownBy V (Value.slice tva tvl tvc).ownBlock → V.cell? ⟨ga, j * 4 + 3, none⟩ = some (.slice (some ⟨ha, 0, none⟩) l3 xc) ∧ V.cell? ⟨gb, j * 4 + 3, none⟩ = some (.slice (some ⟨hb, 0, none⟩) l3 yc)) := fun V hg => by
                have hL := HS2.out.later ((Below.refl _ _).alloc (Nat.le_refl _) (.cells #[.slice (some ⟨ha, 0, none⟩) l3 xc, .slice (some ⟨hb, 0, none⟩) l3 yc] 89)).drew
                have h1 := HAT.out _ _ _ _ _ _ _ _ _ hL
                have hbl : ∀ g, g < W.heap.size → V.heap[g]? = (w2.alloc (.cells #[.slice (some ⟨ha, 0, none⟩) l3 xc, .slice (some ⟨hb, 0, none⟩) l3 yc] 89)).drew.heap[g]? := fun g hgl => hg.block g (by have := hL.kept.size; omega) (fun e => by have := (own_blkG hL.todo g e.symm).1; omega)
                exact ⟨(HCA.out V ((hbl ga (lt_row HHG.out.1)).trans h1.1)).2.2.2, (HCB.out V ((hbl gb (lt_row HHG.out.2.1)).trans h1.2)).2.2.2⟩
              clear HX HY HZ HBX HBN HDONE HBAD HLX HJ HHG HCA HCB HAT HS1 HSV HB0 HB1 HOA HE HZZ HNM HLG HPT HLT HFN HS2 HNE HP
              go_wp2_with fail
              go_region_held_law (fun V => V.cell? ⟨ga, j * 4 + 3, none⟩ = some (.slice (some ⟨ha, 0, none⟩) l3 xc) ∧ V.cell? ⟨gb, j * 4 + 3, none⟩ = some (.slice (some ⟨hb, 0, none⟩) l3 yc)) (first | (with_reducible assumption) | (with_reducible exact HSK.out _ ((Below.refl _ _).alloc (Nat.le_refl _) _)) | (with_reducible exact HSK.out _ ((Below.refl _ _).alloc (Nat.le_refl _) _).drew) | (with_reducible exact HSK.out _ (Below.refl _ _).drew)) ((refine step_append_own rfl (.tmp 105) (.tmp 115) 90 rfl W.heap.size 89 j0 (.agg #[.slice none 0 0, .slice none 0 0]) 2 48 Try.underlying90 hj' hj0 hj1 hj2 rfl (by decide) (.slice tva tvl tvc) fs.length (gcells fs) (by simp [Act.eval]) (hrow.alloc _) ⟨w2.heap.size, 0, none⟩ 1 1 [.slice (some ⟨ha, 0, none⟩) l3 xc, .slice (some ⟨hb, 0, none⟩) l3 yc] (by simp [Act.eval]) rfl (two_cells w2 _ _ _) (by intro u hu; simp at hu; rcases hu with rfl | rfl <;> rfl) (by unfold maxLen; omega) (by omega) (by simp; omega) ?_; intro v' w3 hown3 hgrow3 hat3; have HN : Hid _ := HAP.out _ _ hown3 hgrow3 hat3; have hsk3 := HSG.out _ hgrow3))
              all_goals
                clear hown3 hgrow3 hat3
                go_wp2_with fail
                go_roundw
                case rel => exact ⟨j + 1, by omega, by go_num, HN⟩
                case measure => simp [intOf]; omega

end Go.Proofs.Ytahmbnokjfkfiaa
