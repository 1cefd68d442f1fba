/- The law's own look whether the marks on terms are held. -/
import Derived.Test.YtkkdnkdkelligaaGreatDoorMarkTM
import Derived.Deep.DeepCutAuto
import Derived.Deep.CutRange
import Derived.Test.YtkkdnkdkelligaaGreatDoorDt0M
import Derived.Test.YtkkdnkdkelligaaGreatDoorOkM
import Derived.BigQuiet
import Derived.Test.YtkkdnkdkelligaaGreatDoorDtInsM
import Derived.Test.YtkkdnkdkelligaaGreatDoorDtFnM
import Derived.Test.YtkkdnkdkelligaaGreatDoorDtFrameM
namespace Go.Proofs.YtkkdnkdkelligaaGreatDoor
open Go.RowKit
set_option linter.unusedVariables false

/-- The contract of the look at a list. -/
def HdS (f d : Nat) : Prop := ∀ (v : Value) (ts : List (Tm d)) (k : Int) (w : World), RdL d w v (markL d k ts).1 → 0 ≤ k → k + 3 * (cntL d ts : Nat) ≤ 1099511627776 →
  Calls Tryz.prog f #[v, .int .i64 k] w fun e w' => e = .returned (.int .i64 (k + 3 * (cntL d ts : Nat))) ∧ Below w.heap.size w w'

theorem len_cntL (d : Nat) (ts : List (Tm (d + 1))) : ts.length ≤ cntL (d + 1) ts := by
  show ts.length ≤ (ts.map fun t => 1 + cntL d t.L).sum
  induction ts with
  | nil => simp
  | cons t r ih2 => simp only [List.length_cons, List.map_cons, List.sum_cons]; omega

set_option maxHeartbeats 1000000 in
theorem heldTermS_any : ∀ d, HdS 52 d := by
  intro d
  induction d with
  | zero =>
    intro v ts k w hr h0 h1
    obtain ⟨a, c, rfl⟩ := hr
    go_enter Tryz.func52, Tryz.ntmps52
    go_wp2
    refine wp_loop_rounds 1 ?_
    rw [rounds_succ]
    go_wp2
    go_ret
    exact ⟨tret1 (by show k = k + 3 * ((0 : Nat) : Int); omega), Below.refl _ _⟩
  | succ d ih =>
    intro v ts k w hr h0 h1
    obtain ⟨a, c, rfl, hel⟩ := hr
    have hln : (markL (d + 1) k ts).1.length = ts.length := markList_len _ ts k
    rw [hln]
    have HE : Hid (∀ (i : Nat) (t : Tm (d + 1)), ts[i]? = some t → ∃ b o lv, a = some ⟨b, o, none⟩ ∧ Four w b (o + i * 4) (k + 3 * (cntP d ts i : Nat)) (k + 3 * (cntP d ts i : Nat) + 1) (mt (k + 3 * (cntP d ts i : Nat) + 2)) lv ∧ RdL d w lv (markL d (k + 3 * (cntP d ts i : Nat) + 3) t.L).1) := fun i t ht =>
      hel i (markT d (k + 3 * (cntP d ts i : Nat)) t) (by rw [markL_at, ht]; rfl)
    have HB : Hid (k + 3 * (cntL (d + 1) ts : Nat) ≤ 1099511627776) := h1
    have hlb : ts.length ≤ 1099511627776 := by have := len_cntL d ts; omega
    obtain ⟨len, hl⟩ : ∃ len, ts.length = len := ⟨_, rfl⟩
    have HL : Hid (ts.length = len) := hl
    have HI : Hid (HdS 52 d) := ih
    rw [hl] at hlb ⊢
    clear ih hel hl h1 hln
    go_enter Tryz.func52, Tryz.ntmps52
    go_wp2_with fail
    go_loopw [1, 5] (fun x i wr => ∃ j : Nat, j ≤ len ∧ i = .int .i64 j ∧ x = .int .i64 (k + 3 * (cntP d ts j : Nat)) ∧ Below w.heap.size w wr) (fun _ i _ => len - (intOf i).toNat)
    case atStart => exact ⟨0, Nat.zero_le _, rfl, by show Value.int .i64 k = .int .i64 (k + 3 * ((0 : Nat) : Int)); rw [show k + 3 * ((0 : Nat) : Int) = k from by omega], Below.refl _ _⟩
    case round =>
      obtain ⟨j, hj, rfl, rfl, hb⟩ := hrel
      obtain ⟨q, hq⟩ : ∃ q, k + 3 * (cntP d ts j : Nat) = q := ⟨_, rfl⟩
      have HQ : Hid (k + 3 * (cntP d ts j : Nat) = q) := hq
      have hq0 : 0 ≤ q := by omega
      have hq1 : q ≤ 1099511627776 := by have := cntP_le d ts j; have := HB.out; omega
      rw [hq]
      by_cases hjl : j < len
      · obtain ⟨t, ht⟩ : ∃ t, ts[j]? = some t := ⟨_, List.getElem?_eq_getElem (by rw [HL.out]; exact hjl)⟩
        obtain ⟨b1, o1, lv1, rfl, F1, L1⟩ := HE.out j t ht
        rw [hq, show q + 3 = q + 1 + 1 + 1 from by omega] at L1
        rw [hq, show q + 2 = q + 1 + 1 from by omega] at F1
        have hcnt : q + 3 + 3 * (cntL d t.L : Nat) ≤ 1099511627776 := by
          have h7 := cntP_succ d ts j t ht; have h8 := cntP_le d ts (j + 1); have h9 := HB.out; omega
        have HN : Hid (k + 3 * (cntP d ts (j + 1) : Nat) = q + 1 + 1 + 1 + 3 * (cntL d t.L : Nat)) := by have h7 := cntP_succ d ts j t ht; show _ = _; omega
        have F1' := F1.later hb
        have L1' := L1.later hb
        obtain ⟨xa, xl, xc, hxs⟩ := L1'.shape
        rw [hxs] at F1' L1'
        have HF1 : Hid (Four wr b1 (o1 + j * 4) q (q + 1) (mt (q + 1 + 1)) (.slice xa xl xc)) := F1'
        have HL1 : Hid (RdL d wr (.slice xa xl xc) (markL d (q + 1 + 1 + 1) t.L).1) := L1'
        obtain ⟨f0, f1, f2, f3⟩ := F1'
        have hjl' : (j : Int) < (len : Int) := by omega
        have HMT : Hid (∀ V : World, Calls Tryz.prog 49 #[.int .i64 (q + 1 + 1)] V fun e w' => e = .returned (.string (mt (q + 1 + 1))) ∧ Below V.heap.size V w') := fun V => markText_any (q + 1 + 1) V (by omega) (by omega)
        obtain ⟨M, hM⟩ : ∃ M, mt (q + 1 + 1) = M := ⟨_, rfl⟩
        rw [hM] at HMT f2
        have HFM : Hid (Four wr b1 (o1 + j * 4) q (q + 1) M (.slice xa xl xc)) := by rw [← hM]; exact HF1.out
        clear F1 L1 L1' hxs ht hq HF1 hM
        go_upto_region 10 with fail
        go_cut [37] (fun v wx => v = .bool false ∧ Below wr.heap.size wr wx)
        case first =>
          go_region_with (go_at_call 49; refine (HMT.out _).mono ?_; rintro e V ⟨rfl, hB⟩; have g2 := cell_later ((Below.refl _ _).drew.trans hB) f2)
          all_goals
            go_wp2_with fail
            go_meet
            case rel => exact ⟨by first | rfl | simp, (Below.refl _ _).drew.trans hB⟩
        case rest =>
          obtain ⟨rfl, hbr⟩ := hcut
          obtain ⟨r0, r1, r2, r3⟩ := HFM.out.later hbr
          have hC := HI.out (.slice xa xl xc) t.L (q + 1 + 1 + 1) wc (HL1.out.later hbr) (by omega) (by omega)
          have hnn : ¬ (q + 1 + 1 + 1 + 3 * (cntL d t.L : Nat) : Int) < 0 := by omega
          obtain ⟨z, hz⟩ : ∃ z, (q + 1 + 1 + 1 + 3 * (cntL d t.L : Nat) : Int) = z := ⟨_, rfl⟩
          rw [hz] at hC hnn
          have HZ : Hid (k + 3 * (cntP d ts (j + 1) : Nat) = z) := by rw [← hz]; exact HN.out
          have hb2 : Below w.heap.size w wc := hb.trans (hbr.mono hb.size)
          clear f0 f1 f2 f3 hb hbr hz HN
          go_wp2_with fail
          refine hC.mono ?_
          clear hC
          rintro e V ⟨rfl, hBV⟩
          have hb3 : Below w.heap.size w V := hb2.trans (hBV.mono hb2.size)
          clear r0 r1 r2 r3 hBV hb2
          go_wp2
          go_roundw
          case rel => exact ⟨j + 1, by omega, by go_num, by rw [HZ.out], hb3⟩
          case measure => simp [intOf]; omega
      · have hjn : ts.length ≤ j := by have := HL.out; omega
        have HF : Hid (q = k + 3 * (cntL (d + 1) ts : Nat)) := by rw [← HQ.out, cntP_all d ts j hjn]; exact rfl
        clear hq
        go_wp2
        go_ret
        exact ⟨tret1 HF.out, hb⟩

end Go.Proofs.YtkkdnkdkelligaaGreatDoor

/- The law's own marks on rows of structs, of whatever kind: what a row is behind some of its elements. -/
namespace Go.Proofs.YtkkdnkdkelligaaGreatDoor
open Go.RowKit
set_option linter.unusedVariables false

/-- The cells of one element of a row, some of them written anew. -/
structure ElC (cur curc : Array Value) (j k : Nat) (vals : List Value) : Prop where
  size : curc.size = cur.size
  out : ∀ x, x < j * k ∨ j * k + k ≤ x → curc[x]? = cur[x]?
  len : vals.length = k
  room : j * k + k ≤ cur.size
  cell : ∀ (m : Nat) (u : Value), vals[m]? = some u → curc[j * k + m]? = some u

theorem ElC.put {cur curc : Array Value} {j k m : Nat} {vals vs vals' : List Value} (h : ElC cur curc j k vals) (hm : m + vs.length ≤ k) (hv : vals' = vals.take m ++ (vs ++ vals.drop (m + vs.length))) : ElC cur (putL curc (j * k + m) vs) j k vals' := by
  have hl := h.len
  refine ⟨(putL_size _ _ _).trans h.size, fun x hx => ?_, ?_, h.room, fun n u hu => ?_⟩
  · rw [putL_other _ _ _ _ (by omega)]; exact h.out x hx
  · rw [hv]; simp; omega
  · rw [hv] at hu
    rcases Nat.lt_or_ge n m with q | q
    · rw [List.getElem?_append_left (by simp; omega), List.getElem?_take, if_pos q] at hu
      rw [putL_other _ _ _ _ (by omega)]
      exact h.cell n u hu
    · rw [List.getElem?_append_right (by simp; omega)] at hu
      have e1 : (vals.take m).length = m := by simp; omega
      rw [e1] at hu
      rcases Nat.lt_or_ge (n - m) vs.length with r | r
      · rw [List.getElem?_append_left r] at hu
        have := putL_at vs curc (j * k + m) (n - m) u (by rw [h.size]; have := h.room; omega) hu
        rw [show j * k + m + (n - m) = j * k + n by omega] at this
        exact this
      · rw [List.getElem?_append_right r, List.getElem?_drop] at hu
        rw [putL_other _ _ _ _ (by omega)]
        refine h.cell n u ?_
        rw [show m + vs.length + (n - m - vs.length) = n by omega] at hu
        exact hu

theorem ElC.read {w : World} {g j k m : Nat} {cur curc : Array Value} {T : TypeId} {vals : List Value} {u : Value} (h : ElC cur curc j k vals) (hh : w.heap[g]? = some (.cells curc T (0, 0))) (hu : vals[m]? = some u) : w.cell? ⟨g, j * k + m, none⟩ = some u := by
  rw [cell_of_row w _ _ _ _ _ hh]; exact h.cell m u hu

theorem setL_wrote : ∀ (vs : List Value) (w : World) (g o : Nat), Wrote [g] w (setL w g o vs) := by
  intro vs
  induction vs with
  | nil => intro w g o; exact Wrote.refl _ _
  | cons v vs ih => intro w g o; exact (Wrote.of_set w g o v).trans (ih _ _ _)

theorem len_of_ck {α : Type} {ck : α → Nat} {xs : List α} {A : Nat} (h : (xs.map ck).sum = A) (hp : ∀ x, 1 ≤ ck x) (hA : A ≤ 1099511627776) : xs.length ≤ 1099511627776 := by
  have : xs.length ≤ (xs.map ck).sum := by
    clear h hA
    induction xs with
    | nil => exact Nat.zero_le _
    | cons x r ih => simp only [List.length_cons, List.map_cons, List.sum_cons]; have := hp x; omega
  omega

section
variable {α : Type} {k : Nat} {T : TypeId} {O : World → List Value → α → List Nat → Prop}

/-- One element of a row is opened; whatever is written into it and into what hangs on it, the row is the same row with that element anew. -/
theorem own_mark (hO : LastsO O) {wr : World} {g n c : Nat} {xs : List α} {fp : List Nat} (hk : 0 < k) (hown : OwnRow k T O wr (.slice (some ⟨g, 0, none⟩) n c) xs fp) (hnd : fp.Nodup) (hlt : ∀ y ∈ fp, y < wr.heap.size) {j : Nat} {x : α} (hx : xs[j]? = some x) :
    ∃ cur vs f, wr.heap[g]? = some (.cells cur T (0, 0)) ∧ ElC cur cur j k vs ∧ O wr vs x f ∧ (f.Nodup ∧ g ∉ f ∧ (∀ y ∈ f, y < wr.heap.size) ∧ (∀ y ∈ f, y ∈ fp) ∧ g ∈ fp) ∧
      ∀ (w2 : World) (cur2 : Array Value) (vs' : List Value) (x' : α), w2.heap[g]? = some (.cells cur2 T (0, 0)) → ElC cur cur2 j k vs' → O w2 vs' x' f → Wrote (g :: f) wr w2 → OwnRow k T O w2 (.slice (some ⟨g, 0, none⟩) n c) (xs.set j x') fp := by
  rcases hown with ⟨rfl, _, _⟩ | ⟨g', c', cur, fps, e1, h2, ⟨h3, h3'⟩, rfl, h4⟩
  · simp at hx
  · simp only [Value.slice.injEq, Option.some.injEq, Addr.mk.injEq, and_true] at e1
    obtain ⟨rfl, rfl, rfl⟩ := e1
    obtain ⟨vs, f, q1, q2, q3, q4⟩ := h4 j x hx
    have hgn := List.nodup_cons.1 hnd
    have hfm : ∀ y ∈ f, y ∈ fps.flatten := fun y hy => List.mem_flatten.2 ⟨f, List.mem_of_getElem? q1, hy⟩
    have hroom : j * k + k ≤ cur.size := by
      have := (Array.getElem?_eq_some_iff.1 (q3 (k - 1) vs[k - 1] (List.getElem?_eq_getElem (by omega)))).1
      omega
    refine ⟨cur, vs, f, h2, ⟨rfl, fun _ _ => rfl, q2, hroom, q3⟩, q4, ⟨(nodup_fl fps hgn.2).1 f (List.mem_of_getElem? q1), fun hm => hgn.1 (hfm _ hm), fun y hy => hlt y (List.mem_cons_of_mem _ (hfm y hy)), fun y hy => List.mem_cons_of_mem _ (hfm y hy), List.mem_cons_self ..⟩, fun w2 cur2 vs' x' hh hE hO2 hW => ?_⟩
    refine .inr ⟨g, c, cur2, fps, by simp, hh, ⟨by simpa using h3, by simpa using h3'⟩, rfl, fun i y hy => ?_⟩
    by_cases hij : i = j
    · subst hij
      have hjl : i < xs.length := (List.getElem?_eq_some_iff.1 hx).1
      rw [List.getElem?_set_self hjl] at hy
      cases hy
      exact ⟨vs', f, q1, hE.len, hE.cell, hO2⟩
    · rw [List.getElem?_set_ne (fun e => hij e.symm)] at hy
      obtain ⟨us, f', r1, r2, r3, r4⟩ := h4 i y hy
      refine ⟨us, f', r1, r2, fun m u hu => ?_, hO _ _ _ _ _ r4 fun z hz => ?_⟩
      · have hm : m < k := by have := (List.getElem?_eq_some_iff.1 hu).1; omega
        rw [hE.out _ (by
          rcases Nat.lt_or_gt_of_ne hij with q | q
          · left
            have : (i + 1) * k ≤ j * k := Nat.mul_le_mul_right k q
            rw [Nat.add_mul, Nat.one_mul] at this
            omega
          · right
            have : (j + 1) * k ≤ i * k := Nat.mul_le_mul_right k q
            rw [Nat.add_mul, Nat.one_mul] at this
            omega)]
        exact r3 m u hu
      · have hzf : z ∈ fps.flatten := List.mem_flatten.2 ⟨f', List.mem_of_getElem? r1, hz⟩
        refine hW.block z (hlt z (List.mem_cons_of_mem _ hzf)) fun hm => ?_
        rcases List.mem_cons.1 hm with rfl | hm
        · exact hgn.1 hzf
        · rcases Nat.lt_or_gt_of_ne hij with q | q
          · exact (nodup_fl fps hgn.2).2 i j f' f q r1 q1 z hz hm
          · exact (nodup_fl fps hgn.2).2 j i f f' q q1 r1 z hm hz

/-- A list that is marked one by one. -/
def mkL (mk : Int → α → α) (ck : α → Nat) : Int → List α → List α
  | _, [] => []
  | q, x :: r => mk q x :: mkL mk ck (q + (ck x : Nat)) r

theorem sumP_cons' (f : α → Nat) (x : α) (xs : List α) (i : Nat) : sumP f (x :: xs) (i + 1) = f x + sumP f xs i := by simp [sumP]
theorem sumP_zero' (f : α → Nat) (xs : List α) : sumP f xs 0 = 0 := by simp [sumP]

theorem mkL_at (mk : Int → α → α) (ck : α → Nat) : ∀ (xs : List α) (q : Int) (i : Nat), (mkL mk ck q xs)[i]? = (xs[i]?).map (mk (q + (sumP ck xs i : Nat))) := by
  intro xs
  induction xs with
  | nil => intro q i; simp [mkL]
  | cons b r ih =>
    intro q i
    cases i with
    | zero => simp [mkL, sumP_zero']
    | succ i =>
      rw [mkL, List.getElem?_cons_succ, List.getElem?_cons_succ, ih, sumP_cons']
      congr 2
      omega
theorem mkL_len (mk : Int → α → α) (ck : α → Nat) : ∀ (xs : List α) (q : Int), (mkL mk ck q xs).length = xs.length := by
  intro xs
  induction xs with
  | nil => intro q; rfl
  | cons b r ih => intro q; rw [mkL, List.length_cons, List.length_cons, ih]

def mixL (mk : Int → α → α) (ck : α → Nat) (q : Int) (xs : List α) (j : Nat) : List α := (mkL mk ck q xs).take j ++ xs.drop j

theorem mixL_zero (mk : Int → α → α) (ck : α → Nat) (q : Int) (xs : List α) : mixL mk ck q xs 0 = xs := by simp [mixL]
theorem mixL_all (mk : Int → α → α) (ck : α → Nat) (q : Int) (xs : List α) (j : Nat) (h : xs.length ≤ j) : mixL mk ck q xs j = mkL mk ck q xs := by
  unfold mixL
  rw [List.take_of_length_le (by rw [mkL_len]; exact h), List.drop_of_length_le h, List.append_nil]
theorem mixL_len (mk : Int → α → α) (ck : α → Nat) (q : Int) (xs : List α) (j : Nat) : (mixL mk ck q xs j).length = xs.length := by
  unfold mixL
  rw [List.length_append, List.length_take, List.length_drop, mkL_len]
  omega
theorem mixL_at (mk : Int → α → α) (ck : α → Nat) (q : Int) (xs : List α) (j i : Nat) (h : j ≤ i) : (mixL mk ck q xs j)[i]? = xs[i]? := by
  unfold mixL
  rcases Nat.lt_or_ge i xs.length with hi | hi
  · rw [List.getElem?_append_right (by rw [List.length_take, mkL_len]; omega), List.getElem?_drop, List.length_take, mkL_len]
    congr 1
    omega
  · have h1 : ((mkL mk ck q xs).take j ++ xs.drop j).length = xs.length := mixL_len mk ck q xs j
    rw [List.getElem?_eq_none (by rw [h1]; exact hi), List.getElem?_eq_none hi]
theorem mixL_set (mk : Int → α → α) (ck : α → Nat) (q : Int) (xs : List α) (j : Nat) (x : α) (hx : xs[j]? = some x) : (mixL mk ck q xs j).set j (mk (q + (sumP ck xs j : Nat)) x) = mixL mk ck q xs (j + 1) := by
  have hj := (List.getElem?_eq_some_iff.1 hx).1
  apply List.ext_getElem?
  intro i
  by_cases hij : i = j
  · subst hij
    rw [List.getElem?_set_self (by rw [mixL_len]; exact hj)]
    unfold mixL
    rw [List.getElem?_append_left (by rw [List.length_take, mkL_len]; omega), List.getElem?_take, if_pos (by omega), mkL_at, hx]
    rfl
  · rw [List.getElem?_set_ne (fun e => hij e.symm)]
    rcases Nat.lt_or_gt_of_ne hij with h | h
    · unfold mixL
      rw [List.getElem?_append_left (by rw [List.length_take, mkL_len]; omega), List.getElem?_append_left (by rw [List.length_take, mkL_len]; omega), List.getElem?_take, List.getElem?_take, if_pos h, if_pos (by omega)]
    · rw [mixL_at _ _ _ _ _ _ (by omega), mixL_at _ _ _ _ _ _ (by omega)]
end

/-- The contract of the law's marks on a list; of what it reads of them. -/
def MkLs {α : Type} (F k : Nat) (T : TypeId) (O : World → List Value → α → List Nat → Prop) (mk : Int → α → α) (ck : α → Nat) : Prop := ∀ (v : Value) (xs : List α) (fp : List Nat) (q : Int) (w : World), OwnRow k T O w v xs fp → fp.Nodup → (∀ g ∈ fp, g < w.heap.size) → 0 ≤ q → q + ((xs.map ck).sum : Nat) ≤ 1099511627776 → xs.length ≤ 1099511627776 →
  Calls Tryz.prog F #[v, .int .i64 q] w fun e w' => e = .returned (.int .i64 (q + ((xs.map ck).sum : Nat))) ∧ OwnRow k T O w' v (mkL mk ck q xs) fp ∧ Wrote fp w w'
def HdLs {α : Type} (F k : Nat) (R : World → List Value → α → Prop) (mk : Int → α → α) (ck : α → Nat) : Prop := ∀ (v : Value) (xs : List α) (q : Int) (w : World), RowOf k R w v (mkL mk ck q xs) → 0 ≤ q → q + ((xs.map ck).sum : Nat) ≤ 1099511627776 → xs.length ≤ 1099511627776 →
  Calls Tryz.prog F #[v, .int .i64 q] w fun e w' => e = .returned (.int .i64 (q + ((xs.map ck).sum : Nat))) ∧ Below w.heap.size w w'

def mkI (q : Int) (n : Int) : Int := q
def ckI (n : Int) : Nat := 1

end Go.Proofs.YtkkdnkdkelligaaGreatDoor

/- What the law reads of its marks on lists of numbers. -/
namespace Go.Proofs.YtkkdnkdkelligaaGreatDoor
open Go.RowKit
set_option linter.unusedVariables false

end Go.Proofs.YtkkdnkdkelligaaGreatDoor

/- The law's own marks on lists of Ins. -/
namespace Go.Proofs.YtkkdnkdkelligaaGreatDoor
open Go.RowKit
set_option linter.unusedVariables false

def ckIns (x : DIns) : Nat := 1 + (1 + (1 + (1)))
def mkIns (q : Int) (x : DIns) : DIns := ⟨q, q + 1, mt (q + 1 + 1), q + 1 + 1 + 1⟩

theorem ck_pos_Ins (x : DIns) : 1 ≤ ckIns x := by unfold ckIns; omega

set_option maxHeartbeats 8000000 in
set_option maxRecDepth 100000 in
theorem markInsS_any : MkLs 76 4 113 InsO mkIns ckIns := by
  intro v xs fp q w hown hnd hlt h0 h1 hm
  rcases hown with ⟨rfl, rfl, a, c, rfl⟩ | ⟨g, c, cur0, fps, rfl, hh0, ⟨hfl, hcap⟩, rfl, hel⟩
  · go_enter Tryz.func76, Tryz.ntmps76
    go_wp2
    refine wp_loop_rounds 1 ?_
    rw [rounds_succ]
    go_wp2
    go_ret
    exact ⟨tret1 (by simp), .inl ⟨rfl, rfl, a, c, rfl⟩, Wrote.refl _ _⟩
  · have H0 : Hid (OwnRow 4 113 InsO w (.slice (some ⟨g, 0, none⟩) xs.length c) (mixL mkIns ckIns q xs 0) (g :: fps.flatten)) := by
      rw [mixL_zero]
      exact .inr ⟨g, c, cur0, fps, rfl, hh0, ⟨hfl, hcap⟩, rfl, hel⟩
    have HND : Hid ((g :: fps.flatten).Nodup) := hnd
    have HLT : Hid (∀ y ∈ (g :: fps.flatten), y < w.heap.size) := hlt
    have HBB : Hid (q + ((xs.map ckIns).sum : Nat) ≤ 1099511627776) := h1
    obtain ⟨fp, hfp⟩ : ∃ f, g :: fps.flatten = f := ⟨_, rfl⟩
    rw [hfp] at HND HLT H0
    obtain ⟨len, hl⟩ : ∃ len, xs.length = len := ⟨_, rfl⟩
    have HL : Hid (xs.length = len) := hl
    rw [hl] at hm H0 ⊢
    have HGOAL : Hid (∀ (e : Ending) (w' : World), (e = .returned (.int .i64 (q + ((xs.map ckIns).sum : Nat))) ∧ OwnRow 4 113 InsO w' (.slice (some ⟨g, 0, none⟩) len c) (mkL mkIns ckIns q xs) fp ∧ Wrote fp w w') → (e = .returned (.int .i64 (q + ((xs.map ckIns).sum : Nat))) ∧ OwnRow 4 113 InsO w' (.slice (some ⟨g, 0, none⟩) len c) (mkL mkIns ckIns q xs) (g :: fps.flatten) ∧ Wrote (g :: fps.flatten) w w')) := fun e w' h => by rw [hfp]; exact h
    skip
    clear hel hl hnd hfl h1 hcap hh0 hlt hfp
    go_enter Tryz.func76, Tryz.ntmps76
    go_wp2_with fail
    go_loopw [1, 5] (fun x i wr => ∃ (j : Nat) (y : Int), j ≤ len ∧ i = .int .i64 j ∧ x = .int .i64 y ∧ Hid (y = q + (sumP ckIns xs j : Nat)) ∧ 0 ≤ y ∧ y ≤ 1099511627776 ∧ Hid (OwnRow 4 113 InsO wr (.slice (some ⟨g, 0, none⟩) len c) (mixL mkIns ckIns q xs j) fp ∧ Wrote fp w wr)) (fun _ i _ => len - (intOf i).toNat)
    case atStart => exact ⟨0, q, Nat.zero_le _, rfl, rfl, (by show _ = _; rw [sumP_zero']; omega), h0, (by have := HBB.out; omega), H0.out, Wrote.refl _ _⟩
    case round =>
      obtain ⟨j, y, hj, rfl, rfl, HY, hy0, hy1, HS⟩ := hrel
      clear H0
      by_cases hjl : j < len
      · obtain ⟨x, hx⟩ : ∃ x, xs[j]? = some x := ⟨_, List.getElem?_eq_getElem (by rw [HL.out]; exact hjl)⟩
        have HLT2 : Hid (∀ z ∈ fp, z < wr.heap.size) := fun z hz => Nat.lt_of_lt_of_le (HLT.out z hz) HS.out.2.size
        have HX : Hid (xs[j]? = some x) := hx
        obtain ⟨cur, vs, f, hh, hE, hO, ⟨hf1, hf2, hf3, hf4, hf5⟩, hclose⟩ := own_mark InsO.lasts (by omega) HS.out.1 HND.out HLT2.out (by rw [mixL_at _ _ _ _ _ _ (Nat.le_refl _)]; exact hx)
        obtain ⟨rfl, efp⟩ := hO
        subst efp
        have hjl' : (j : Int) < (len : Int) := by omega
        have hst := sumP_succ ckIns xs j x hx
        have hle := sumP_le ckIns xs (j + 1)
        have hck : ckIns x = 1 + (1 + (1 + (1))) := by rfl
        have hbd : y + (1 + (1 + (1 + (1))) : Nat) ≤ 1099511627776 := by have := HY.out; have := HBB.out; omega
        have HNX : Hid (y + (1 + (1 + (1 + (1))) : Nat) = q + (sumP ckIns xs (j + 1) : Nat)) := by have := HY.out; show _ = _; omega
        have HFP : Hid (∀ z ∈ g :: ([]), z ∈ fp) := fun z hz => by rcases List.mem_cons.1 hz with rfl | hz; exact hf5; exact hf4 z hz
        have HC : Hid _ := hclose
        have HR_wr : Hid (wr.heap[g]? = some (.cells cur 113 (0, 0))) := hh
        have HE_wr : Hid (ElC cur cur j 4 [.int .i64 x.Op, .int .i64 x.N, .string x.S, .int .i64 x.To]) := hE
        have HW_wr : Hid (Wrote (g :: ([])) wr wr) := Wrote.refl _ _
        clear hh hE hclose hf1 hf2 hf3 hf4 hf5 hst hle hck hx  
        have s0 : wr.cell? ⟨g, j * 4, none⟩ = some (.int .i64 x.Op) := by have := HE_wr.out.read (m := 0) HR_wr.out rfl; rw [Nat.add_zero] at this; exact this
        have z0 : wr.frozen? ⟨g, j * 4, none⟩ = false := frozen_of_row wr _ _ _ _ HR_wr.out
        have s1 : wr.cell? ⟨g, j * 4 + 1, none⟩ = some (.int .i64 x.N) := HE_wr.out.read (m := 1) HR_wr.out rfl
        have z1 : wr.frozen? ⟨g, j * 4 + 1, none⟩ = false := frozen_of_row wr _ _ _ _ HR_wr.out
        obtain ⟨S1, hS1⟩ : ∃ S, S = (wr.setCell ⟨g, j * 4, none⟩ (.int .i64 (y))).setCell ⟨g, j * 4 + 1, none⟩ (.int .i64 (y + 1)) := ⟨_, rfl⟩
        have hS1' : S1 = setL wr g (j * 4 + 0) [.int .i64 (y), .int .i64 (y + 1)] := hS1
        obtain ⟨qS1, HR_S1, HE_S1⟩ : ∃ cc, Hid (S1.heap[g]? = some (.cells cc 113 (0, 0))) ∧ Hid (ElC cur cc j 4 [.int .i64 (y), .int .i64 (y + 1), .string x.S, .int .i64 x.To]) := ⟨_, (by show S1.heap[g]? = _; rw [hS1']; exact setL_row _ _ _ _ _ _ HR_wr.out), HE_wr.out.put (m := 0) (vs := [.int .i64 (y), .int .i64 (y + 1)]) (by simp) rfl⟩
        have hkS1 : ∀ z, z ≠ g → S1.heap[z]? = wr.heap[z]? := fun z hz => by rw [hS1']; exact setL_other _ _ _ _ _ hz
        have HW_S1 : Hid (Wrote (g :: ([])) wr S1) := HW_wr.out.trans (by rw [hS1']; exact (setL_wrote _ _ _ _).mono fun z hz => by obtain rfl := List.mem_singleton.1 hz; exact List.mem_cons_self ..)
        have hC := markText_any (y + 1 + 1) S1 (by omega) (by omega)
        rw [hS1] at hC
        have HS_S1 : Hid (S1 = _) := hS1
        clear hS1 hS1' hkS1
        go_wp2_with fail
        refine hC.mono ?_
        clear hC s0 z0 s1 z1
        rintro e U1 ⟨rfl, hB⟩
        rw [← HS_S1.out] at hB
        obtain ⟨qU1, HR_U1, HE_U1⟩ : ∃ cc, Hid (U1.heap[g]? = some (.cells cc 113 (0, 0))) ∧ Hid (ElC cur cc j 4 [.int .i64 (y), .int .i64 (y + 1), .string x.S, .int .i64 x.To]) := ⟨_, (hB.block _ (lt_row HR_S1.out)).trans HR_S1.out, HE_S1.out⟩
        have HW_U1 : Hid (Wrote (g :: ([])) wr U1) := HW_S1.out.trans (Wrote.of_below hB)
        clear hB
        have s2 : U1.cell? ⟨g, j * 4 + 2, none⟩ = some (.string x.S) := HE_U1.out.read (m := 2) HR_U1.out rfl
        have z2 : U1.frozen? ⟨g, j * 4 + 2, none⟩ = false := frozen_of_row U1 _ _ _ _ HR_U1.out
        have s3 : U1.cell? ⟨g, j * 4 + 3, none⟩ = some (.int .i64 x.To) := HE_U1.out.read (m := 3) HR_U1.out rfl
        have z3 : U1.frozen? ⟨g, j * 4 + 3, none⟩ = false := frozen_of_row U1 _ _ _ _ HR_U1.out
        obtain ⟨S2, hS2⟩ : ∃ S, S = (U1.setCell ⟨g, j * 4 + 2, none⟩ (.string (mt (y + 1 + 1)))).setCell ⟨g, j * 4 + 3, none⟩ (.int .i64 (y + 1 + 1 + 1)) := ⟨_, rfl⟩
        have hS2' : S2 = setL U1 g (j * 4 + 2) [.string (mt (y + 1 + 1)), .int .i64 (y + 1 + 1 + 1)] := hS2
        obtain ⟨qS2, HR_S2, HE_S2⟩ : ∃ cc, Hid (S2.heap[g]? = some (.cells cc 113 (0, 0))) ∧ Hid (ElC cur cc j 4 [.int .i64 (y), .int .i64 (y + 1), .string (mt (y + 1 + 1)), .int .i64 (y + 1 + 1 + 1)]) := ⟨_, (by show S2.heap[g]? = _; rw [hS2']; exact setL_row _ _ _ _ _ _ HR_U1.out), HE_U1.out.put (m := 2) (vs := [.string (mt (y + 1 + 1)), .int .i64 (y + 1 + 1 + 1)]) (by simp) rfl⟩
        have hkS2 : ∀ z, z ≠ g → S2.heap[z]? = U1.heap[z]? := fun z hz => by rw [hS2']; exact setL_other _ _ _ _ _ hz
        have HW_S2 : Hid (Wrote (g :: ([])) wr S2) := HW_U1.out.trans (by rw [hS2']; exact (setL_wrote _ _ _ _).mono fun z hz => by obtain rfl := List.mem_singleton.1 hz; exact List.mem_cons_self ..)
        have HEND : Hid (y + 1 + 1 + 1 + 1 = q + (sumP ckIns xs (j + 1) : Nat) ∧ y + 1 + 1 + 1 + 1 ≤ 1099511627776) := by have := HNX.out; show _ ∧ _; omega
        have HOX : Hid (InsO S2 [.int .i64 (y), .int .i64 (y + 1), .string (mt (y + 1 + 1)), .int .i64 (y + 1 + 1 + 1)] (mkIns y x) ([])) := by
          exact ⟨rfl, rfl⟩
        have HFIN : Hid (OwnRow 4 113 InsO S2 (.slice (some ⟨g, 0, none⟩) len c) (mixL mkIns ckIns q xs (j + 1)) fp ∧ Wrote fp w S2) := by
          have h3 := HC.out S2 _ [.int .i64 (y), .int .i64 (y + 1), .string (mt (y + 1 + 1)), .int .i64 (y + 1 + 1 + 1)] (mkIns y x) HR_S2.out HE_S2.out HOX.out HW_S2.out
          rw [HY.out, mixL_set _ _ _ _ _ _ HX.out] at h3
          exact ⟨h3, HS.out.2.trans (HW_S2.out.mono HFP.out)⟩
        rw [hS2] at HFIN
        clear hS2 hS2' hkS2
        clear HOX HC HR_S2 HE_S2 HW_S2
        go_wp2_with fail
        go_roundw
        case rel => exact ⟨j + 1, y + 1 + 1 + 1 + 1, by omega, by go_num, by go_num, HEND.out.1, by omega, HEND.out.2, HFIN⟩
        case measure => simp [intOf]; omega
      · have hjn : xs.length ≤ j := by have := HL.out; omega
        have HF : Hid (y = q + ((xs.map ckIns).sum : Nat)) := by
          show _ = _
          rw [HY.out]
          have : sumP ckIns xs j = (xs.map ckIns).sum := by unfold sumP; rw [List.take_of_length_le hjn]
          rw [this]
        have HO : Hid (OwnRow 4 113 InsO wr (.slice (some ⟨g, 0, none⟩) len c) (mkL mkIns ckIns q xs) fp ∧ Wrote fp w wr) := by
          have := HS.out
          rw [mixL_all _ _ _ _ _ hjn] at this
          exact this
        clear HS
        go_wp2_with fail
        go_ret
        exact HGOAL.out _ _ ⟨tret1 HF.out, HO.out.1, HO.out.2⟩

end Go.Proofs.YtkkdnkdkelligaaGreatDoor

/- The law's own marks on lists of Fn. -/
namespace Go.Proofs.YtkkdnkdkelligaaGreatDoor
open Go.RowKit
set_option linter.unusedVariables false

def ckFn (x : DFn) : Nat := 1 + (1 + (1 + ((x.Ins.map ckIns).sum)))
def mkFn (q : Int) (x : DFn) : DFn := ⟨mt (q), q + 1, q + 1 + 1, (mkL mkIns ckIns (q + 1 + 1 + 1) x.Ins)⟩

theorem ck_pos_Fn (x : DFn) : 1 ≤ ckFn x := by unfold ckFn; omega

set_option maxHeartbeats 8000000 in
set_option maxRecDepth 100000 in
theorem markFnS_any : MkLs 47 4 83 FnO mkFn ckFn := by
  intro v xs fp q w hown hnd hlt h0 h1 hm
  rcases hown with ⟨rfl, rfl, a, c, rfl⟩ | ⟨g, c, cur0, fps, rfl, hh0, ⟨hfl, hcap⟩, rfl, hel⟩
  · go_enter Tryz.func47, Tryz.ntmps47
    go_wp2
    refine wp_loop_rounds 1 ?_
    rw [rounds_succ]
    go_wp2
    go_ret
    exact ⟨tret1 (by simp), .inl ⟨rfl, rfl, a, c, rfl⟩, Wrote.refl _ _⟩
  · have H0 : Hid (OwnRow 4 83 FnO w (.slice (some ⟨g, 0, none⟩) xs.length c) (mixL mkFn ckFn q xs 0) (g :: fps.flatten)) := by
      rw [mixL_zero]
      exact .inr ⟨g, c, cur0, fps, rfl, hh0, ⟨hfl, hcap⟩, rfl, hel⟩
    have HND : Hid ((g :: fps.flatten).Nodup) := hnd
    have HLT : Hid (∀ y ∈ (g :: fps.flatten), y < w.heap.size) := hlt
    have HBB : Hid (q + ((xs.map ckFn).sum : Nat) ≤ 1099511627776) := h1
    obtain ⟨fp, hfp⟩ : ∃ f, g :: fps.flatten = f := ⟨_, rfl⟩
    rw [hfp] at HND HLT H0
    obtain ⟨len, hl⟩ : ∃ len, xs.length = len := ⟨_, rfl⟩
    have HL : Hid (xs.length = len) := hl
    rw [hl] at hm H0 ⊢
    have HGOAL : Hid (∀ (e : Ending) (w' : World), (e = .returned (.int .i64 (q + ((xs.map ckFn).sum : Nat))) ∧ OwnRow 4 83 FnO w' (.slice (some ⟨g, 0, none⟩) len c) (mkL mkFn ckFn q xs) fp ∧ Wrote fp w w') → (e = .returned (.int .i64 (q + ((xs.map ckFn).sum : Nat))) ∧ OwnRow 4 83 FnO w' (.slice (some ⟨g, 0, none⟩) len c) (mkL mkFn ckFn q xs) (g :: fps.flatten) ∧ Wrote (g :: fps.flatten) w w')) := fun e w' h => by rw [hfp]; exact h
    skip
    clear hel hl hnd hfl h1 hcap hh0 hlt hfp
    go_enter Tryz.func47, Tryz.ntmps47
    go_wp2_with fail
    go_loopw [1, 5] (fun x i wr => ∃ (j : Nat) (y : Int), j ≤ len ∧ i = .int .i64 j ∧ x = .int .i64 y ∧ Hid (y = q + (sumP ckFn xs j : Nat)) ∧ 0 ≤ y ∧ y ≤ 1099511627776 ∧ Hid (OwnRow 4 83 FnO wr (.slice (some ⟨g, 0, none⟩) len c) (mixL mkFn ckFn q xs j) fp ∧ Wrote fp w wr)) (fun _ i _ => len - (intOf i).toNat)
    case atStart => exact ⟨0, q, Nat.zero_le _, rfl, rfl, (by show _ = _; rw [sumP_zero']; omega), h0, (by have := HBB.out; omega), H0.out, Wrote.refl _ _⟩
    case round =>
      obtain ⟨j, y, hj, rfl, rfl, HY, hy0, hy1, HS⟩ := hrel
      clear H0
      by_cases hjl : j < len
      · obtain ⟨x, hx⟩ : ∃ x, xs[j]? = some x := ⟨_, List.getElem?_eq_getElem (by rw [HL.out]; exact hjl)⟩
        have HLT2 : Hid (∀ z ∈ fp, z < wr.heap.size) := fun z hz => Nat.lt_of_lt_of_le (HLT.out z hz) HS.out.2.size
        have HX : Hid (xs[j]? = some x) := hx
        obtain ⟨cur, vs, f, hh, hE, hO, ⟨hf1, hf2, hf3, hf4, hf5⟩, hclose⟩ := own_mark FnO.lasts (by omega) HS.out.1 HND.out HLT2.out (by rw [mixL_at _ _ _ _ _ _ (Nat.le_refl _)]; exact hx)
        obtain ⟨v3, of3, rfl, efp, oh3⟩ := hO
        obtain ⟨a3, l3, c3, rfl⟩ := oh3.sl
        subst efp
        have hjl' : (j : Int) < (len : Int) := by omega
        have hst := sumP_succ ckFn xs j x hx
        have hle := sumP_le ckFn xs (j + 1)
        obtain ⟨A3, hA3⟩ : ∃ A, (x.Ins.map ckIns).sum = A := ⟨_, rfl⟩
        have HA3 : Hid ((x.Ins.map ckIns).sum = A3) := hA3
        have hck : ckFn x = 1 + (1 + (1 + (A3))) := by rw [← hA3]; rfl
        have hbd : y + (1 + (1 + (1 + (A3))) : Nat) ≤ 1099511627776 := by have := HY.out; have := HBB.out; omega
        have HNX : Hid (y + (1 + (1 + (1 + (A3))) : Nat) = q + (sumP ckFn xs (j + 1) : Nat)) := by have := HY.out; show _ = _; omega
        have HN3 : Hid (f.Nodup ∧ g ∉ f ∧ (∀ z ∈ f, z < wr.heap.size) ∧ (∀ z ∈ f, z ∈ g :: (f))) := ⟨hf1, fun hz => hf2 (hz), fun z hz => hf3 z (hz), fun z hz => List.mem_cons_of_mem _ (hz)⟩
        have HFP : Hid (∀ z ∈ g :: (f), z ∈ fp) := fun z hz => by rcases List.mem_cons.1 hz with rfl | hz; exact hf5; exact hf4 z hz
        have HC : Hid _ := hclose
        have HR_wr : Hid (wr.heap[g]? = some (.cells cur 83 (0, 0))) := hh
        have HE_wr : Hid (ElC cur cur j 4 [.string x.Name, .int .i64 x.Args, .int .i64 x.Slots, .slice a3 l3 c3]) := hE
        have HO3_wr : Hid (OwnRow 4 113 InsO wr (.slice a3 l3 c3) x.Ins f) := oh3
        have HW_wr : Hid (Wrote (g :: (f)) wr wr) := Wrote.refl _ _
        clear hh hE hclose hf1 hf2 hf3 hf4 hf5 hst hle hck hx oh3 hA3
        have hC := markText_any (y) wr (by omega) (by omega)
        go_wp2_with fail
        refine hC.mono ?_
        clear hC 
        rintro e U1 ⟨rfl, hB⟩
        obtain ⟨qU1, HR_U1, HE_U1⟩ : ∃ cc, Hid (U1.heap[g]? = some (.cells cc 83 (0, 0))) ∧ Hid (ElC cur cc j 4 [.string x.Name, .int .i64 x.Args, .int .i64 x.Slots, .slice a3 l3 c3]) := ⟨_, (hB.block _ (lt_row HR_wr.out)).trans HR_wr.out, HE_wr.out⟩
        have HO3_U1 : Hid (OwnRow 4 113 InsO U1 (.slice a3 l3 c3) x.Ins f) := HO3_wr.out.frame InsO.lasts fun z hz => hB.block z (Nat.lt_of_lt_of_le (HN3.out.2.2.1 z hz) HW_wr.out.size)
        have HW_U1 : Hid (Wrote (g :: (f)) wr U1) := HW_wr.out.trans (Wrote.of_below hB)
        clear hB
        have s0 : U1.cell? ⟨g, j * 4, none⟩ = some (.string x.Name) := by have := HE_U1.out.read (m := 0) HR_U1.out rfl; rw [Nat.add_zero] at this; exact this
        have z0 : U1.frozen? ⟨g, j * 4, none⟩ = false := frozen_of_row U1 _ _ _ _ HR_U1.out
        have s1 : U1.cell? ⟨g, j * 4 + 1, none⟩ = some (.int .i64 x.Args) := HE_U1.out.read (m := 1) HR_U1.out rfl
        have z1 : U1.frozen? ⟨g, j * 4 + 1, none⟩ = false := frozen_of_row U1 _ _ _ _ HR_U1.out
        have s2 : U1.cell? ⟨g, j * 4 + 2, none⟩ = some (.int .i64 x.Slots) := HE_U1.out.read (m := 2) HR_U1.out rfl
        have z2 : U1.frozen? ⟨g, j * 4 + 2, none⟩ = false := frozen_of_row U1 _ _ _ _ HR_U1.out
        have ld3 : U1.cell? ⟨g, j * 4 + 3, none⟩ = some (.slice a3 l3 c3) := HE_U1.out.read (m := 3) HR_U1.out rfl
        obtain ⟨S2, hS2⟩ : ∃ S, S = ((U1.setCell ⟨g, j * 4, none⟩ (.string (mt (y)))).setCell ⟨g, j * 4 + 1, none⟩ (.int .i64 (y + 1))).setCell ⟨g, j * 4 + 2, none⟩ (.int .i64 (y + 1 + 1)) := ⟨_, rfl⟩
        have hS2' : S2 = setL U1 g (j * 4 + 0) [.string (mt (y)), .int .i64 (y + 1), .int .i64 (y + 1 + 1)] := hS2
        obtain ⟨qS2, HR_S2, HE_S2⟩ : ∃ cc, Hid (S2.heap[g]? = some (.cells cc 83 (0, 0))) ∧ Hid (ElC cur cc j 4 [.string (mt (y)), .int .i64 (y + 1), .int .i64 (y + 1 + 1), .slice a3 l3 c3]) := ⟨_, (by show S2.heap[g]? = _; rw [hS2']; exact setL_row _ _ _ _ _ _ HR_U1.out), HE_U1.out.put (m := 0) (vs := [.string (mt (y)), .int .i64 (y + 1), .int .i64 (y + 1 + 1)]) (by simp) rfl⟩
        have hkS2 : ∀ z, z ≠ g → S2.heap[z]? = U1.heap[z]? := fun z hz => by rw [hS2']; exact setL_other _ _ _ _ _ hz
        have HO3_S2 : Hid (OwnRow 4 113 InsO S2 (.slice a3 l3 c3) x.Ins f) := HO3_U1.out.frame InsO.lasts fun z hz => hkS2 z (fun e => HN3.out.2.1 (e ▸ hz))
        have HW_S2 : Hid (Wrote (g :: (f)) wr S2) := HW_U1.out.trans (by rw [hS2']; exact (setL_wrote _ _ _ _).mono fun z hz => by obtain rfl := List.mem_singleton.1 hz; exact List.mem_cons_self ..)
        have hC := markInsS_any (.slice a3 l3 c3) x.Ins f (y + 1 + 1 + 1) S2 HO3_S2.out HN3.out.1 (fun z hz => Nat.lt_of_lt_of_le (HN3.out.2.2.1 z hz) HW_S2.out.size) (by omega) (by have := HA3.out; omega) (len_of_ck HA3.out (ck_pos_Ins) (by omega))
        obtain ⟨y3, hy3⟩ : ∃ z : Int, y + 1 + 1 + 1 + (((x.Ins.map ckIns).sum : Nat) : Int) = z := ⟨_, rfl⟩
        have HY3 : Hid (y + 1 + 1 + 1 + (((x.Ins.map ckIns).sum : Nat) : Int) = y3) := hy3
        have hq3 : y + 1 + 1 + 1 + (A3 : Nat) = y3 := by have := HA3.out; omega
        rw [hy3] at hC
        clear hy3
        have hqb3 : 0 ≤ y3 := by omega
        have HQ3 : Hid (y + 1 + 1 + 1 + (A3 : Nat) = y3) := hq3
        have hbd3 : y3 + (0 : Nat) ≤ 1099511627776 := by omega
        have HNX3 : Hid (y3 + (0 : Nat) = q + (sumP ckFn xs (j + 1) : Nat)) := by have := HNX.out; show _ = _; omega
        clear hq3
        rw [hS2] at hC
        have HS_S2 : Hid (S2 = _) := hS2
        clear hS2 hS2' hkS2
        go_wp2_with fail
        refine hC.mono ?_
        clear hC s0 z0 s1 z1 s2 z2 ld3
        rintro e U2 ⟨rfl, hOw, hW⟩
        rw [← HS_S2.out] at hW
        obtain ⟨qU2, HR_U2, HE_U2⟩ : ∃ cc, Hid (U2.heap[g]? = some (.cells cc 83 (0, 0))) ∧ Hid (ElC cur cc j 4 [.string (mt (y)), .int .i64 (y + 1), .int .i64 (y + 1 + 1), .slice a3 l3 c3]) := ⟨_, (hW.block _ (lt_row HR_S2.out) HN3.out.2.1).trans HR_S2.out, HE_S2.out⟩
        have HO3_U2 : Hid (OwnRow 4 113 InsO U2 (.slice a3 l3 c3) (mkL mkIns ckIns (y + 1 + 1 + 1) x.Ins) f) := hOw
        have HW_U2 : Hid (Wrote (g :: (f)) wr U2) := HW_S2.out.trans (hW.mono HN3.out.2.2.2)
        clear hW hOw
        have HEND : Hid (y3 = q + (sumP ckFn xs (j + 1) : Nat) ∧ y3 ≤ 1099511627776) := by have := HNX3.out; show _ ∧ _; omega
        have HOX : Hid (FnO U2 [.string (mt (y)), .int .i64 (y + 1), .int .i64 (y + 1 + 1), .slice a3 l3 c3] (mkFn y x) (f)) := by
          have e3 := HY3.out
          subst e3
          exact ⟨_, _, rfl, rfl, HO3_U2.out⟩
        have HFIN : Hid (OwnRow 4 83 FnO U2 (.slice (some ⟨g, 0, none⟩) len c) (mixL mkFn ckFn q xs (j + 1)) fp ∧ Wrote fp w U2) := by
          have h3 := HC.out U2 _ [.string (mt (y)), .int .i64 (y + 1), .int .i64 (y + 1 + 1), .slice a3 l3 c3] (mkFn y x) HR_U2.out HE_U2.out HOX.out HW_U2.out
          rw [HY.out, mixL_set _ _ _ _ _ _ HX.out] at h3
          exact ⟨h3, HS.out.2.trans (HW_U2.out.mono HFP.out)⟩
        clear HOX HC HR_U2 HE_U2 HW_U2 HO3_U2
        go_wp2_with fail
        go_roundw
        case rel => exact ⟨j + 1, y3, by omega, by go_num, by go_num, HEND.out.1, by omega, HEND.out.2, HFIN⟩
        case measure => simp [intOf]; omega
      · have hjn : xs.length ≤ j := by have := HL.out; omega
        have HF : Hid (y = q + ((xs.map ckFn).sum : Nat)) := by
          show _ = _
          rw [HY.out]
          have : sumP ckFn xs j = (xs.map ckFn).sum := by unfold sumP; rw [List.take_of_length_le hjn]
          rw [this]
        have HO : Hid (OwnRow 4 83 FnO wr (.slice (some ⟨g, 0, none⟩) len c) (mkL mkFn ckFn q xs) fp ∧ Wrote fp w wr) := by
          have := HS.out
          rw [mixL_all _ _ _ _ _ hjn] at this
          exact this
        clear HS
        go_wp2_with fail
        go_ret
        exact HGOAL.out _ _ ⟨tret1 HF.out, HO.out.1, HO.out.2⟩

end Go.Proofs.YtkkdnkdkelligaaGreatDoor

/- What the law reads of its marks on lists of Ins. -/
namespace Go.Proofs.YtkkdnkdkelligaaGreatDoor
open Go.RowKit
set_option linter.unusedVariables false

end Go.Proofs.YtkkdnkdkelligaaGreatDoor

/- What the law reads of its marks on lists of Fn. -/
namespace Go.Proofs.YtkkdnkdkelligaaGreatDoor
open Go.RowKit
set_option linter.unusedVariables false

end Go.Proofs.YtkkdnkdkelligaaGreatDoor

/- The law's own marks on lists of Pat. -/
namespace Go.Proofs.YtkkdnkdkelligaaGreatDoor
open Go.RowKit
set_option linter.unusedVariables false

def ckPat : (d : Nat) → Tm d → Nat
  | 0, _ => 0
  | d + 1, x => 1 + (1 + (1 + (x.L.map (ckPat d)).sum))
def mkPat : (d : Nat) → Int → Tm d → Tm d
  | 0, _, x => x
  | d + 1, q, x => ((q, q + 1, mt (q + 1 + 1), mkL (mkPat d) (ckPat d) (q + 1 + 1 + 1) x.L) : Int × Int × ByteArray × List (Tm d))

theorem ck_pos_Pat (d : Nat) (x : Tm d) : 1 ≤ ckPat d x := by cases d with | zero => exact Empty.elim x | succ d => show 1 ≤ 1 + _; omega

set_option maxHeartbeats 8000000 in
set_option maxRecDepth 100000 in
theorem markPatS_any : ∀ d, MkLs 48 4 117 (PatO d) (mkPat d) (ckPat d) := by
  intro d
  induction d with
  | zero =>
    intro v xs fp q w hown hnd hlt h0 h1 hm
    obtain rfl : xs = [] := by cases xs with | nil => rfl | cons t _ => exact Empty.elim t
    rcases hown with ⟨_, rfl, a, c, rfl⟩ | ⟨g, c, cur0, fps, rfl, hh0, ⟨hfl, hcap⟩, rfl, hel⟩
    · go_enter Tryz.func48, Tryz.ntmps48
      go_wp2
      refine wp_loop_rounds 1 ?_
      rw [rounds_succ]
      go_wp2
      go_ret
      exact ⟨tret1 (by simp), .inl ⟨rfl, rfl, a, c, rfl⟩, Wrote.refl _ _⟩
    · go_enter Tryz.func48, Tryz.ntmps48
      go_wp2
      refine wp_loop_rounds 1 ?_
      rw [rounds_succ]
      go_wp2
      go_ret
      exact ⟨tret1 (by simp), .inr ⟨g, c, cur0, fps, rfl, hh0, ⟨hfl, hcap⟩, rfl, hel⟩, Wrote.refl _ _⟩
  | succ d ih =>
  intro v xs fp q w hown hnd hlt h0 h1 hm
  rcases hown with ⟨rfl, rfl, a, c, rfl⟩ | ⟨g, c, cur0, fps, rfl, hh0, ⟨hfl, hcap⟩, rfl, hel⟩
  · go_enter Tryz.func48, Tryz.ntmps48
    go_wp2
    refine wp_loop_rounds 1 ?_
    rw [rounds_succ]
    go_wp2
    go_ret
    exact ⟨tret1 (by simp), .inl ⟨rfl, rfl, a, c, rfl⟩, Wrote.refl _ _⟩
  · have H0 : Hid (OwnRow 4 117 (PatO (d + 1)) w (.slice (some ⟨g, 0, none⟩) xs.length c) (mixL (mkPat (d + 1)) (ckPat (d + 1)) q xs 0) (g :: fps.flatten)) := by
      rw [mixL_zero]
      exact .inr ⟨g, c, cur0, fps, rfl, hh0, ⟨hfl, hcap⟩, rfl, hel⟩
    have HND : Hid ((g :: fps.flatten).Nodup) := hnd
    have HLT : Hid (∀ y ∈ (g :: fps.flatten), y < w.heap.size) := hlt
    have HBB : Hid (q + ((xs.map (ckPat (d + 1))).sum : Nat) ≤ 1099511627776) := h1
    obtain ⟨fp, hfp⟩ : ∃ f, g :: fps.flatten = f := ⟨_, rfl⟩
    rw [hfp] at HND HLT H0
    obtain ⟨len, hl⟩ : ∃ len, xs.length = len := ⟨_, rfl⟩
    have HL : Hid (xs.length = len) := hl
    rw [hl] at hm H0 ⊢
    have HGOAL : Hid (∀ (e : Ending) (w' : World), (e = .returned (.int .i64 (q + ((xs.map (ckPat (d + 1))).sum : Nat))) ∧ OwnRow 4 117 (PatO (d + 1)) w' (.slice (some ⟨g, 0, none⟩) len c) (mkL (mkPat (d + 1)) (ckPat (d + 1)) q xs) fp ∧ Wrote fp w w') → (e = .returned (.int .i64 (q + ((xs.map (ckPat (d + 1))).sum : Nat))) ∧ OwnRow 4 117 (PatO (d + 1)) w' (.slice (some ⟨g, 0, none⟩) len c) (mkL (mkPat (d + 1)) (ckPat (d + 1)) q xs) (g :: fps.flatten) ∧ Wrote (g :: fps.flatten) w w')) := fun e w' h => by rw [hfp]; exact h
    have HIH : Hid _ := ih
    clear hel hl hnd hfl h1 hcap hh0 hlt hfp
    go_enter Tryz.func48, Tryz.ntmps48
    go_wp2_with fail
    go_loopw [1, 5] (fun x i wr => ∃ (j : Nat) (y : Int), j ≤ len ∧ i = .int .i64 j ∧ x = .int .i64 y ∧ Hid (y = q + (sumP (ckPat (d + 1)) xs j : Nat)) ∧ 0 ≤ y ∧ y ≤ 1099511627776 ∧ Hid (OwnRow 4 117 (PatO (d + 1)) wr (.slice (some ⟨g, 0, none⟩) len c) (mixL (mkPat (d + 1)) (ckPat (d + 1)) q xs j) fp ∧ Wrote fp w wr)) (fun _ i _ => len - (intOf i).toNat)
    case atStart => exact ⟨0, q, Nat.zero_le _, rfl, rfl, (by show _ = _; rw [sumP_zero']; omega), h0, (by have := HBB.out; omega), H0.out, Wrote.refl _ _⟩
    case round =>
      obtain ⟨j, y, hj, rfl, rfl, HY, hy0, hy1, HS⟩ := hrel
      clear H0
      by_cases hjl : j < len
      · obtain ⟨x, hx⟩ : ∃ x, xs[j]? = some x := ⟨_, List.getElem?_eq_getElem (by rw [HL.out]; exact hjl)⟩
        have HLT2 : Hid (∀ z ∈ fp, z < wr.heap.size) := fun z hz => Nat.lt_of_lt_of_le (HLT.out z hz) HS.out.2.size
        have HX : Hid (xs[j]? = some x) := hx
        obtain ⟨cur, vs, f, hh, hE, hO, ⟨hf1, hf2, hf3, hf4, hf5⟩, hclose⟩ := own_mark (PatO.lasts (d + 1)) (by omega) HS.out.1 HND.out HLT2.out (by rw [mixL_at _ _ _ _ _ _ (Nat.le_refl _)]; exact hx)
        obtain ⟨v3, of3, rfl, efp, oh3⟩ := hO
        obtain ⟨a3, l3, c3, rfl⟩ := oh3.sl
        subst efp
        have hjl' : (j : Int) < (len : Int) := by omega
        have hst := sumP_succ (ckPat (d + 1)) xs j x hx
        have hle := sumP_le (ckPat (d + 1)) xs (j + 1)
        obtain ⟨A3, hA3⟩ : ∃ A, (x.L.map (ckPat d)).sum = A := ⟨_, rfl⟩
        have HA3 : Hid ((x.L.map (ckPat d)).sum = A3) := hA3
        have hck : ckPat (d + 1) x = 1 + (1 + (1 + (A3))) := by rw [← hA3]; rfl
        have hbd : y + (1 + (1 + (1 + (A3))) : Nat) ≤ 1099511627776 := by have := HY.out; have := HBB.out; omega
        have HNX : Hid (y + (1 + (1 + (1 + (A3))) : Nat) = q + (sumP (ckPat (d + 1)) xs (j + 1) : Nat)) := by have := HY.out; show _ = _; omega
        have HN3 : Hid (f.Nodup ∧ g ∉ f ∧ (∀ z ∈ f, z < wr.heap.size) ∧ (∀ z ∈ f, z ∈ g :: (f))) := ⟨hf1, fun hz => hf2 (hz), fun z hz => hf3 z (hz), fun z hz => List.mem_cons_of_mem _ (hz)⟩
        have HFP : Hid (∀ z ∈ g :: (f), z ∈ fp) := fun z hz => by rcases List.mem_cons.1 hz with rfl | hz; exact hf5; exact hf4 z hz
        have HC : Hid _ := hclose
        have HR_wr : Hid (wr.heap[g]? = some (.cells cur 117 (0, 0))) := hh
        have HE_wr : Hid (ElC cur cur j 4 [.int .i64 x.K, .int .i64 x.N, .string x.S, .slice a3 l3 c3]) := hE
        have HO3_wr : Hid (OwnRow 4 117 (PatO d) wr (.slice a3 l3 c3) x.L f) := oh3
        have HW_wr : Hid (Wrote (g :: (f)) wr wr) := Wrote.refl _ _
        clear hh hE hclose hf1 hf2 hf3 hf4 hf5 hst hle hck hx oh3 hA3
        have s0 : wr.cell? ⟨g, j * 4, none⟩ = some (.int .i64 x.K) := by have := HE_wr.out.read (m := 0) HR_wr.out rfl; rw [Nat.add_zero] at this; exact this
        have z0 : wr.frozen? ⟨g, j * 4, none⟩ = false := frozen_of_row wr _ _ _ _ HR_wr.out
        have s1 : wr.cell? ⟨g, j * 4 + 1, none⟩ = some (.int .i64 x.N) := HE_wr.out.read (m := 1) HR_wr.out rfl
        have z1 : wr.frozen? ⟨g, j * 4 + 1, none⟩ = false := frozen_of_row wr _ _ _ _ HR_wr.out
        obtain ⟨S1, hS1⟩ : ∃ S, S = (wr.setCell ⟨g, j * 4, none⟩ (.int .i64 (y))).setCell ⟨g, j * 4 + 1, none⟩ (.int .i64 (y + 1)) := ⟨_, rfl⟩
        have hS1' : S1 = setL wr g (j * 4 + 0) [.int .i64 (y), .int .i64 (y + 1)] := hS1
        obtain ⟨qS1, HR_S1, HE_S1⟩ : ∃ cc, Hid (S1.heap[g]? = some (.cells cc 117 (0, 0))) ∧ Hid (ElC cur cc j 4 [.int .i64 (y), .int .i64 (y + 1), .string x.S, .slice a3 l3 c3]) := ⟨_, (by show S1.heap[g]? = _; rw [hS1']; exact setL_row _ _ _ _ _ _ HR_wr.out), HE_wr.out.put (m := 0) (vs := [.int .i64 (y), .int .i64 (y + 1)]) (by simp) rfl⟩
        have hkS1 : ∀ z, z ≠ g → S1.heap[z]? = wr.heap[z]? := fun z hz => by rw [hS1']; exact setL_other _ _ _ _ _ hz
        have HO3_S1 : Hid (OwnRow 4 117 (PatO d) S1 (.slice a3 l3 c3) x.L f) := HO3_wr.out.frame (PatO.lasts d) fun z hz => hkS1 z (fun e => HN3.out.2.1 (e ▸ hz))
        have HW_S1 : Hid (Wrote (g :: (f)) wr S1) := HW_wr.out.trans (by rw [hS1']; exact (setL_wrote _ _ _ _).mono fun z hz => by obtain rfl := List.mem_singleton.1 hz; exact List.mem_cons_self ..)
        have hC := markText_any (y + 1 + 1) S1 (by omega) (by omega)
        rw [hS1] at hC
        have HS_S1 : Hid (S1 = _) := hS1
        clear hS1 hS1' hkS1
        go_wp2_with fail
        refine hC.mono ?_
        clear hC s0 z0 s1 z1
        rintro e U1 ⟨rfl, hB⟩
        rw [← HS_S1.out] at hB
        obtain ⟨qU1, HR_U1, HE_U1⟩ : ∃ cc, Hid (U1.heap[g]? = some (.cells cc 117 (0, 0))) ∧ Hid (ElC cur cc j 4 [.int .i64 (y), .int .i64 (y + 1), .string x.S, .slice a3 l3 c3]) := ⟨_, (hB.block _ (lt_row HR_S1.out)).trans HR_S1.out, HE_S1.out⟩
        have HO3_U1 : Hid (OwnRow 4 117 (PatO d) U1 (.slice a3 l3 c3) x.L f) := HO3_S1.out.frame (PatO.lasts d) fun z hz => hB.block z (Nat.lt_of_lt_of_le (HN3.out.2.2.1 z hz) HW_S1.out.size)
        have HW_U1 : Hid (Wrote (g :: (f)) wr U1) := HW_S1.out.trans (Wrote.of_below hB)
        clear hB
        have s2 : U1.cell? ⟨g, j * 4 + 2, none⟩ = some (.string x.S) := HE_U1.out.read (m := 2) HR_U1.out rfl
        have z2 : U1.frozen? ⟨g, j * 4 + 2, none⟩ = false := frozen_of_row U1 _ _ _ _ HR_U1.out
        have ld3 : U1.cell? ⟨g, j * 4 + 3, none⟩ = some (.slice a3 l3 c3) := HE_U1.out.read (m := 3) HR_U1.out rfl
        obtain ⟨S2, hS2⟩ : ∃ S, S = U1.setCell ⟨g, j * 4 + 2, none⟩ (.string (mt (y + 1 + 1))) := ⟨_, rfl⟩
        have hS2' : S2 = setL U1 g (j * 4 + 2) [.string (mt (y + 1 + 1))] := hS2
        obtain ⟨qS2, HR_S2, HE_S2⟩ : ∃ cc, Hid (S2.heap[g]? = some (.cells cc 117 (0, 0))) ∧ Hid (ElC cur cc j 4 [.int .i64 (y), .int .i64 (y + 1), .string (mt (y + 1 + 1)), .slice a3 l3 c3]) := ⟨_, (by show S2.heap[g]? = _; rw [hS2']; exact setL_row _ _ _ _ _ _ HR_U1.out), HE_U1.out.put (m := 2) (vs := [.string (mt (y + 1 + 1))]) (by simp) rfl⟩
        have hkS2 : ∀ z, z ≠ g → S2.heap[z]? = U1.heap[z]? := fun z hz => by rw [hS2']; exact setL_other _ _ _ _ _ hz
        have HO3_S2 : Hid (OwnRow 4 117 (PatO d) S2 (.slice a3 l3 c3) x.L f) := HO3_U1.out.frame (PatO.lasts d) fun z hz => hkS2 z (fun e => HN3.out.2.1 (e ▸ hz))
        have HW_S2 : Hid (Wrote (g :: (f)) wr S2) := HW_U1.out.trans (by rw [hS2']; exact (setL_wrote _ _ _ _).mono fun z hz => by obtain rfl := List.mem_singleton.1 hz; exact List.mem_cons_self ..)
        have hC := HIH.out (.slice a3 l3 c3) x.L f (y + 1 + 1 + 1) S2 HO3_S2.out HN3.out.1 (fun z hz => Nat.lt_of_lt_of_le (HN3.out.2.2.1 z hz) HW_S2.out.size) (by omega) (by have := HA3.out; omega) (len_of_ck HA3.out (ck_pos_Pat d) (by omega))
        obtain ⟨y3, hy3⟩ : ∃ z : Int, y + 1 + 1 + 1 + (((x.L.map (ckPat d)).sum : Nat) : Int) = z := ⟨_, rfl⟩
        have HY3 : Hid (y + 1 + 1 + 1 + (((x.L.map (ckPat d)).sum : Nat) : Int) = y3) := hy3
        have hq3 : y + 1 + 1 + 1 + (A3 : Nat) = y3 := by have := HA3.out; omega
        rw [hy3] at hC
        clear hy3
        have hqb3 : 0 ≤ y3 := by omega
        have HQ3 : Hid (y + 1 + 1 + 1 + (A3 : Nat) = y3) := hq3
        have hbd3 : y3 + (0 : Nat) ≤ 1099511627776 := by omega
        have HNX3 : Hid (y3 + (0 : Nat) = q + (sumP (ckPat (d + 1)) xs (j + 1) : Nat)) := by have := HNX.out; show _ = _; omega
        clear hq3
        rw [hS2] at hC
        have HS_S2 : Hid (S2 = _) := hS2
        clear hS2 hS2' hkS2
        go_wp2_with fail
        refine hC.mono ?_
        clear hC s2 z2 ld3
        rintro e U2 ⟨rfl, hOw, hW⟩
        rw [← HS_S2.out] at hW
        obtain ⟨qU2, HR_U2, HE_U2⟩ : ∃ cc, Hid (U2.heap[g]? = some (.cells cc 117 (0, 0))) ∧ Hid (ElC cur cc j 4 [.int .i64 (y), .int .i64 (y + 1), .string (mt (y + 1 + 1)), .slice a3 l3 c3]) := ⟨_, (hW.block _ (lt_row HR_S2.out) HN3.out.2.1).trans HR_S2.out, HE_S2.out⟩
        have HO3_U2 : Hid (OwnRow 4 117 (PatO d) U2 (.slice a3 l3 c3) (mkL (mkPat d) (ckPat d) (y + 1 + 1 + 1) x.L) f) := hOw
        have HW_U2 : Hid (Wrote (g :: (f)) wr U2) := HW_S2.out.trans (hW.mono HN3.out.2.2.2)
        clear hW hOw
        have HEND : Hid (y3 = q + (sumP (ckPat (d + 1)) xs (j + 1) : Nat) ∧ y3 ≤ 1099511627776) := by have := HNX3.out; show _ ∧ _; omega
        have HOX : Hid (PatO (d + 1) U2 [.int .i64 (y), .int .i64 (y + 1), .string (mt (y + 1 + 1)), .slice a3 l3 c3] (mkPat (d + 1) y x) (f)) := by
          have e3 := HY3.out
          subst e3
          exact ⟨_, _, rfl, rfl, HO3_U2.out⟩
        have HFIN : Hid (OwnRow 4 117 (PatO (d + 1)) U2 (.slice (some ⟨g, 0, none⟩) len c) (mixL (mkPat (d + 1)) (ckPat (d + 1)) q xs (j + 1)) fp ∧ Wrote fp w U2) := by
          have h3 := HC.out U2 _ [.int .i64 (y), .int .i64 (y + 1), .string (mt (y + 1 + 1)), .slice a3 l3 c3] (mkPat (d + 1) y x) HR_U2.out HE_U2.out HOX.out HW_U2.out
          rw [HY.out, mixL_set _ _ _ _ _ _ HX.out] at h3
          exact ⟨h3, HS.out.2.trans (HW_U2.out.mono HFP.out)⟩
        clear HOX HC HR_U2 HE_U2 HW_U2 HO3_U2
        go_wp2_with fail
        go_roundw
        case rel => exact ⟨j + 1, y3, by omega, by go_num, by go_num, HEND.out.1, by omega, HEND.out.2, HFIN⟩
        case measure => simp [intOf]; omega
      · have hjn : xs.length ≤ j := by have := HL.out; omega
        have HF : Hid (y = q + ((xs.map (ckPat (d + 1))).sum : Nat)) := by
          show _ = _
          rw [HY.out]
          have : sumP (ckPat (d + 1)) xs j = (xs.map (ckPat (d + 1))).sum := by unfold sumP; rw [List.take_of_length_le hjn]
          rw [this]
        have HO : Hid (OwnRow 4 117 (PatO (d + 1)) wr (.slice (some ⟨g, 0, none⟩) len c) (mkL (mkPat (d + 1)) (ckPat (d + 1)) q xs) fp ∧ Wrote fp w wr) := by
          have := HS.out
          rw [mixL_all _ _ _ _ _ hjn] at this
          exact this
        clear HS
        go_wp2_with fail
        go_ret
        exact HGOAL.out _ _ ⟨tret1 HF.out, HO.out.1, HO.out.2⟩

end Go.Proofs.YtkkdnkdkelligaaGreatDoor

/- What the law reads of its marks on lists of Pat. -/
namespace Go.Proofs.YtkkdnkdkelligaaGreatDoor
open Go.RowKit
set_option linter.unusedVariables false

end Go.Proofs.YtkkdnkdkelligaaGreatDoor

/- The law's own marks on Code (its lists), and what it reads of them. -/
namespace Go.Proofs.YtkkdnkdkelligaaGreatDoor
open Go.RowKit
set_option linter.unusedVariables false

def ckSCode (d : Nat) (x : DCode d) : Nat := (x.Fns.map ckFn).sum + ((x.Pats.map (ckPat d)).sum)
def mkSCode (d : Nat) (q : Int) (x : DCode d) : DCode d := ⟨(mkL mkFn ckFn (q) x.Fns), (mkL (mkPat d) (ckPat d) (q + ((x.Fns.map ckFn).sum : Nat)) x.Pats)⟩

set_option maxHeartbeats 4000000 in
set_option maxRecDepth 100000 in
theorem markCode_any (d : Nat) (vs : List Value) (x : DCode d) (fp : List Nat) (q : Int) (w : World) (hO : CodeO d w vs x fp) (hnd : fp.Nodup) (hlt : ∀ g ∈ fp, g < w.heap.size) (h0 : 0 ≤ q) (h1 : q + (ckSCode d x : Nat) ≤ 1099511627776) :
    Calls Tryz.prog 18 #[.agg vs.toArray, .int .i64 q] w fun e w' => e = .returned (.int .i64 (q + (ckSCode d x : Nat))) ∧ CodeO d w' vs (mkSCode d q x) fp ∧ Wrote fp w w' := by
  obtain ⟨v0, v1, of0, of1, rfl, efp, oh0, oh1⟩ := hO
  obtain ⟨a0, l0, c0, rfl⟩ := oh0.sl
  obtain ⟨a1, l1, c1, rfl⟩ := oh1.sl
  subst efp
  obtain ⟨A0, hA0⟩ : ∃ A, (x.Fns.map ckFn).sum = A := ⟨_, rfl⟩
  have HA0 : Hid ((x.Fns.map ckFn).sum = A0) := hA0
  obtain ⟨A1, hA1⟩ : ∃ A, (x.Pats.map (ckPat d)).sum = A := ⟨_, rfl⟩
  have HA1 : Hid ((x.Pats.map (ckPat d)).sum = A1) := hA1
  have hck : ckSCode d x = A0 + (A1) := by rw [← hA0]; rw [← hA1]; rfl
  rw [hck] at h1 ⊢
  obtain ⟨W, hW⟩ : ∃ W, W = w.alloc (.cells #[.slice a0 l0 c0, .slice a1 l1 c1] 36) := ⟨_, rfl⟩
  have hA : Below w.heap.size w W := by rw [hW]; exact (Below.refl _ _).alloc (Nat.le_refl _) _
  have HR_W : Hid (W.heap[w.heap.size]? = some (.cells #[.slice a0 l0 c0, .slice a1 l1 c1] 36 (0, 0))) := by rw [hW]; exact heap_alloc_new w _
  have HN0 : Hid (of0.Nodup ∧ w.heap.size ∉ of0 ∧ (∀ z ∈ of0, z < w.heap.size) ∧ (∀ z ∈ of0, z ∈ of0 ++ (of1))) := ⟨(List.nodup_append.1 hnd).1, fun hz => by have := hlt _ (List.mem_append_left _ hz); omega, fun z hz => hlt z (List.mem_append_left _ hz), fun z hz => List.mem_append_left _ hz⟩
  have HN1 : Hid (of1.Nodup ∧ w.heap.size ∉ of1 ∧ (∀ z ∈ of1, z < w.heap.size) ∧ (∀ z ∈ of1, z ∈ of0 ++ (of1))) := ⟨(List.nodup_append.1 hnd).2.1, fun hz => by have := hlt _ (List.mem_append_right _ (hz)); omega, fun z hz => hlt z (List.mem_append_right _ (hz)), fun z hz => List.mem_append_right _ (hz)⟩
  have HD0_1 : Hid (∀ z ∈ of0, z ∉ of1) := fun z hz hz' => (List.nodup_append.1 hnd).2.2 z hz z hz' rfl
  have HO0_W : Hid (OwnRow 4 83 FnO W (.slice a0 l0 c0) x.Fns of0) := oh0.frame FnO.lasts fun z hz => hA.block z (HN0.out.2.2.1 z hz)
  have HO1_W : Hid (OwnRow 4 117 (PatO d) W (.slice a1 l1 c1) x.Pats of1) := oh1.frame (PatO.lasts d) fun z hz => hA.block z (HN1.out.2.2.1 z hz)
  have HW_W : Hid (Wrote (of0 ++ (of1)) w W) := Wrote.of_below hA
  have HWW : Hid (W = _) := hW
  clear hnd hlt hck hA hW oh0 hA0 oh1 hA1
  have hC := markFnS_any (.slice a0 l0 c0) x.Fns of0 (q) W HO0_W.out HN0.out.1 (fun z hz => Nat.lt_of_lt_of_le (HN0.out.2.2.1 z hz) HW_W.out.size) (by omega) (by have := HA0.out; omega) (len_of_ck HA0.out (ck_pos_Fn) (by omega))
  obtain ⟨y0, hy0⟩ : ∃ z : Int, q + (((x.Fns.map ckFn).sum : Nat) : Int) = z := ⟨_, rfl⟩
  have HY0 : Hid (q + (((x.Fns.map ckFn).sum : Nat) : Int) = y0) := hy0
  have hq0 : q + (A0 : Nat) = y0 := by have := HA0.out; omega
  have HQ0 : Hid (q + (A0 : Nat) = y0) := hq0
  rw [hy0] at hC
  clear hy0
  have hqb0 : 0 ≤ y0 := by omega
  have hbd0 : y0 + (A1 : Nat) ≤ 1099511627776 := by omega
  clear hq0
  rw [HWW.out] at hC
  go_enter Tryz.func18, Tryz.ntmps18
  go_wp2_with fail
  refine hC.mono ?_
  clear hC
  rintro e U0 ⟨rfl, hOw, hWr⟩
  rw [← HWW.out] at hWr
  have HR_U0 : Hid (U0.heap[w.heap.size]? = some (.cells #[.slice a0 l0 c0, .slice a1 l1 c1] 36 (0, 0))) := (hWr.block _ (lt_row HR_W.out) HN0.out.2.1).trans HR_W.out
  have HO1_U0 : Hid (OwnRow 4 117 (PatO d) U0 (.slice a1 l1 c1) x.Pats of1) := HO1_W.out.frame (PatO.lasts d) fun z hz => hWr.block z (Nat.lt_of_lt_of_le (HN1.out.2.2.1 z hz) HW_W.out.size) (fun hm => HD0_1.out z hm hz)
  have HO0_U0 : Hid (OwnRow 4 83 FnO U0 (.slice a0 l0 c0) (mkL mkFn ckFn (q) x.Fns) of0) := hOw
  have HW_U0 : Hid (Wrote (of0 ++ (of1)) w U0) := HW_W.out.trans (hWr.mono HN0.out.2.2.2)
  clear hWr hOw
  have hC := markPatS_any d (.slice a1 l1 c1) x.Pats of1 (y0) U0 HO1_U0.out HN1.out.1 (fun z hz => Nat.lt_of_lt_of_le (HN1.out.2.2.1 z hz) HW_U0.out.size) (by omega) (by have := HA1.out; omega) (len_of_ck HA1.out (ck_pos_Pat d) (by omega))
  obtain ⟨y1, hy1⟩ : ∃ z : Int, y0 + (((x.Pats.map (ckPat d)).sum : Nat) : Int) = z := ⟨_, rfl⟩
  have HY1 : Hid (y0 + (((x.Pats.map (ckPat d)).sum : Nat) : Int) = y1) := hy1
  have hq1 : y0 + (A1 : Nat) = y1 := by have := HA1.out; omega
  have HQ1 : Hid (y0 + (A1 : Nat) = y1) := hq1
  rw [hy1] at hC
  clear hy1
  have hqb1 : 0 ≤ y1 := by omega
  have hbd1 : y1 + (0 : Nat) ≤ 1099511627776 := by omega
  clear hq1
  have d1 : U0.cell? ⟨w.heap.size, 1, none⟩ = some (.slice a1 l1 c1) := by rw [cell_of_row U0 _ 1 _ _ _ HR_U0.out]; rfl
  go_wp2_with fail
  refine hC.mono ?_
  clear hC d1
  rintro e U1 ⟨rfl, hOw, hWr⟩
  have HR_U1 : Hid (U1.heap[w.heap.size]? = some (.cells #[.slice a0 l0 c0, .slice a1 l1 c1] 36 (0, 0))) := (hWr.block _ (lt_row HR_U0.out) HN1.out.2.1).trans HR_U0.out
  have HO0_U1 : Hid (OwnRow 4 83 FnO U1 (.slice a0 l0 c0) (mkL mkFn ckFn (q) x.Fns) of0) := HO0_U0.out.frame FnO.lasts fun z hz => hWr.block z (Nat.lt_of_lt_of_le (HN0.out.2.2.1 z hz) HW_U0.out.size) (HD0_1.out z hz)
  have HO1_U1 : Hid (OwnRow 4 117 (PatO d) U1 (.slice a1 l1 c1) (mkL (mkPat d) (ckPat d) (y0) x.Pats) of1) := hOw
  have HW_U1 : Hid (Wrote (of0 ++ (of1)) w U1) := HW_U0.out.trans (hWr.mono HN1.out.2.2.2)
  clear hWr hOw
  have HEND : Hid (y1 = q + ((A0 + (A1) : Nat) : Int)) := by have := HQ0.out; have := HQ1.out; show _ = _; omega
  have HOX : Hid (CodeO d U1 [.slice a0 l0 c0, .slice a1 l1 c1] (mkSCode d q x) (of0 ++ (of1))) := by
    have e0 := HY0.out
    subst e0
    have e1 := HY1.out
    subst e1
    exact ⟨_, _, _, _, rfl, rfl, HO0_U1.out, HO1_U1.out⟩
  go_wp2_with fail
  go_ret
  exact ⟨tret1 HEND.out, HOX.out, HW_U1.out⟩

end Go.Proofs.YtkkdnkdkelligaaGreatDoor

/- The law's own marks on lists of Frame. -/
namespace Go.Proofs.YtkkdnkdkelligaaGreatDoor
open Go.RowKit
set_option linter.unusedVariables false

def ckFrame (d : Nat) (x : DFrame d) : Nat := 1 + (1 + (3 * cntL (d + 1) x.Slots))
def mkFrame (d : Nat) (q : Int) (x : DFrame d) : DFrame d := ⟨q, q + 1, (markL (d + 1) (q + 1 + 1) x.Slots).1⟩

theorem ck_pos_Frame (d : Nat) (x : DFrame d) : 1 ≤ ckFrame d x := by unfold ckFrame; omega

set_option maxHeartbeats 8000000 in
set_option maxRecDepth 100000 in
theorem markFrameS_any (d : Nat) : MkLs 50 3 61 (FrameO d) (mkFrame d) (ckFrame d) := by
  intro v xs fp q w hown hnd hlt h0 h1 hm
  rcases hown with ⟨rfl, rfl, a, c, rfl⟩ | ⟨g, c, cur0, fps, rfl, hh0, ⟨hfl, hcap⟩, rfl, hel⟩
  · go_enter Tryz.func50, Tryz.ntmps50
    go_wp2
    refine wp_loop_rounds 1 ?_
    rw [rounds_succ]
    go_wp2
    go_ret
    exact ⟨tret1 (by simp), .inl ⟨rfl, rfl, a, c, rfl⟩, Wrote.refl _ _⟩
  · have H0 : Hid (OwnRow 3 61 (FrameO d) w (.slice (some ⟨g, 0, none⟩) xs.length c) (mixL (mkFrame d) (ckFrame d) q xs 0) (g :: fps.flatten)) := by
      rw [mixL_zero]
      exact .inr ⟨g, c, cur0, fps, rfl, hh0, ⟨hfl, hcap⟩, rfl, hel⟩
    have HND : Hid ((g :: fps.flatten).Nodup) := hnd
    have HLT : Hid (∀ y ∈ (g :: fps.flatten), y < w.heap.size) := hlt
    have HBB : Hid (q + ((xs.map (ckFrame d)).sum : Nat) ≤ 1099511627776) := h1
    obtain ⟨fp, hfp⟩ : ∃ f, g :: fps.flatten = f := ⟨_, rfl⟩
    rw [hfp] at HND HLT H0
    obtain ⟨len, hl⟩ : ∃ len, xs.length = len := ⟨_, rfl⟩
    have HL : Hid (xs.length = len) := hl
    rw [hl] at hm H0 ⊢
    have HGOAL : Hid (∀ (e : Ending) (w' : World), (e = .returned (.int .i64 (q + ((xs.map (ckFrame d)).sum : Nat))) ∧ OwnRow 3 61 (FrameO d) w' (.slice (some ⟨g, 0, none⟩) len c) (mkL (mkFrame d) (ckFrame d) q xs) fp ∧ Wrote fp w w') → (e = .returned (.int .i64 (q + ((xs.map (ckFrame d)).sum : Nat))) ∧ OwnRow 3 61 (FrameO d) w' (.slice (some ⟨g, 0, none⟩) len c) (mkL (mkFrame d) (ckFrame d) q xs) (g :: fps.flatten) ∧ Wrote (g :: fps.flatten) w w')) := fun e w' h => by rw [hfp]; exact h
    skip
    clear hel hl hnd hfl h1 hcap hh0 hlt hfp
    go_enter Tryz.func50, Tryz.ntmps50
    go_wp2_with fail
    go_loopw [1, 5] (fun x i wr => ∃ (j : Nat) (y : Int), j ≤ len ∧ i = .int .i64 j ∧ x = .int .i64 y ∧ Hid (y = q + (sumP (ckFrame d) xs j : Nat)) ∧ 0 ≤ y ∧ y ≤ 1099511627776 ∧ Hid (OwnRow 3 61 (FrameO d) wr (.slice (some ⟨g, 0, none⟩) len c) (mixL (mkFrame d) (ckFrame d) q xs j) fp ∧ Wrote fp w wr)) (fun _ i _ => len - (intOf i).toNat)
    case atStart => exact ⟨0, q, Nat.zero_le _, rfl, rfl, (by show _ = _; rw [sumP_zero']; omega), h0, (by have := HBB.out; omega), H0.out, Wrote.refl _ _⟩
    case round =>
      obtain ⟨j, y, hj, rfl, rfl, HY, hy0, hy1, HS⟩ := hrel
      clear H0
      by_cases hjl : j < len
      · obtain ⟨x, hx⟩ : ∃ x, xs[j]? = some x := ⟨_, List.getElem?_eq_getElem (by rw [HL.out]; exact hjl)⟩
        have HLT2 : Hid (∀ z ∈ fp, z < wr.heap.size) := fun z hz => Nat.lt_of_lt_of_le (HLT.out z hz) HS.out.2.size
        have HX : Hid (xs[j]? = some x) := hx
        obtain ⟨cur, vs, f, hh, hE, hO, ⟨hf1, hf2, hf3, hf4, hf5⟩, hclose⟩ := own_mark (FrameO.lasts d) (by omega) HS.out.1 HND.out HLT2.out (by rw [mixL_at _ _ _ _ _ _ (Nat.le_refl _)]; exact hx)
        obtain ⟨v2, of2, rfl, efp, oh2⟩ := hO
        obtain ⟨a2, l2, c2, rfl⟩ := oh2.sl
        subst efp
        have hjl' : (j : Int) < (len : Int) := by omega
        have hst := sumP_succ (ckFrame d) xs j x hx
        have hle := sumP_le (ckFrame d) xs (j + 1)
        obtain ⟨A2, hA2⟩ : ∃ A, 3 * cntL (d + 1) x.Slots = A := ⟨_, rfl⟩
        have HA2 : Hid (3 * cntL (d + 1) x.Slots = A2) := hA2
        have hck : ckFrame d x = 1 + (1 + (A2)) := by rw [← hA2]; rfl
        have hbd : y + (1 + (1 + (A2)) : Nat) ≤ 1099511627776 := by have := HY.out; have := HBB.out; omega
        have HNX : Hid (y + (1 + (1 + (A2)) : Nat) = q + (sumP (ckFrame d) xs (j + 1) : Nat)) := by have := HY.out; show _ = _; omega
        have HN2 : Hid (f.Nodup ∧ g ∉ f ∧ (∀ z ∈ f, z < wr.heap.size) ∧ (∀ z ∈ f, z ∈ g :: (f))) := ⟨hf1, fun hz => hf2 (hz), fun z hz => hf3 z (hz), fun z hz => List.mem_cons_of_mem _ (hz)⟩
        have HFP : Hid (∀ z ∈ g :: (f), z ∈ fp) := fun z hz => by rcases List.mem_cons.1 hz with rfl | hz; exact hf5; exact hf4 z hz
        have HC : Hid _ := hclose
        have HR_wr : Hid (wr.heap[g]? = some (.cells cur 61 (0, 0))) := hh
        have HE_wr : Hid (ElC cur cur j 3 [.int .i64 x.F, .int .i64 x.Pc, .slice a2 l2 c2]) := hE
        have HO2_wr : Hid (OwnL (d + 1) wr (.slice a2 l2 c2) x.Slots f) := oh2
        have HW_wr : Hid (Wrote (g :: (f)) wr wr) := Wrote.refl _ _
        clear hh hE hclose hf1 hf2 hf3 hf4 hf5 hst hle hck hx oh2 hA2
        have s0 : wr.cell? ⟨g, j * 3, none⟩ = some (.int .i64 x.F) := by have := HE_wr.out.read (m := 0) HR_wr.out rfl; rw [Nat.add_zero] at this; exact this
        have z0 : wr.frozen? ⟨g, j * 3, none⟩ = false := frozen_of_row wr _ _ _ _ HR_wr.out
        have s1 : wr.cell? ⟨g, j * 3 + 1, none⟩ = some (.int .i64 x.Pc) := HE_wr.out.read (m := 1) HR_wr.out rfl
        have z1 : wr.frozen? ⟨g, j * 3 + 1, none⟩ = false := frozen_of_row wr _ _ _ _ HR_wr.out
        have ld2 : wr.cell? ⟨g, j * 3 + 2, none⟩ = some (.slice a2 l2 c2) := HE_wr.out.read (m := 2) HR_wr.out rfl
        obtain ⟨S1, hS1⟩ : ∃ S, S = (wr.setCell ⟨g, j * 3, none⟩ (.int .i64 (y))).setCell ⟨g, j * 3 + 1, none⟩ (.int .i64 (y + 1)) := ⟨_, rfl⟩
        have hS1' : S1 = setL wr g (j * 3 + 0) [.int .i64 (y), .int .i64 (y + 1)] := hS1
        obtain ⟨qS1, HR_S1, HE_S1⟩ : ∃ cc, Hid (S1.heap[g]? = some (.cells cc 61 (0, 0))) ∧ Hid (ElC cur cc j 3 [.int .i64 (y), .int .i64 (y + 1), .slice a2 l2 c2]) := ⟨_, (by show S1.heap[g]? = _; rw [hS1']; exact setL_row _ _ _ _ _ _ HR_wr.out), HE_wr.out.put (m := 0) (vs := [.int .i64 (y), .int .i64 (y + 1)]) (by simp) rfl⟩
        have hkS1 : ∀ z, z ≠ g → S1.heap[z]? = wr.heap[z]? := fun z hz => by rw [hS1']; exact setL_other _ _ _ _ _ hz
        have HO2_S1 : Hid (OwnL (d + 1) S1 (.slice a2 l2 c2) x.Slots f) := HO2_wr.out.frame fun z hz => hkS1 z (fun e => HN2.out.2.1 (e ▸ hz))
        have HW_S1 : Hid (Wrote (g :: (f)) wr S1) := HW_wr.out.trans (by rw [hS1']; exact (setL_wrote _ _ _ _).mono fun z hz => by obtain rfl := List.mem_singleton.1 hz; exact List.mem_cons_self ..)
        have hC := markTermS_any (d + 1) (.slice a2 l2 c2) x.Slots f (y + 1 + 1) S1 HO2_S1.out HN2.out.1 (by omega) (by have := HA2.out; omega)
        obtain ⟨y2, hy2⟩ : ∃ z : Int, y + 1 + 1 + 3 * ((cntL (d + 1) x.Slots : Nat) : Int) = z := ⟨_, rfl⟩
        have HY2 : Hid (y + 1 + 1 + 3 * ((cntL (d + 1) x.Slots : Nat) : Int) = y2) := hy2
        have hq2 : y + 1 + 1 + (A2 : Nat) = y2 := by have := HA2.out; omega
        rw [hy2] at hC
        clear hy2
        have hqb2 : 0 ≤ y2 := by omega
        have HQ2 : Hid (y + 1 + 1 + (A2 : Nat) = y2) := hq2
        have hbd2 : y2 + (0 : Nat) ≤ 1099511627776 := by omega
        have HNX2 : Hid (y2 + (0 : Nat) = q + (sumP (ckFrame d) xs (j + 1) : Nat)) := by have := HNX.out; show _ = _; omega
        clear hq2
        rw [hS1] at hC
        have HS_S1 : Hid (S1 = _) := hS1
        clear hS1 hS1' hkS1
        go_wp2_with fail
        refine hC.mono ?_
        clear hC s0 z0 s1 z1 ld2
        rintro e U1 ⟨rfl, hOw, hW⟩
        rw [← HS_S1.out] at hW
        obtain ⟨qU1, HR_U1, HE_U1⟩ : ∃ cc, Hid (U1.heap[g]? = some (.cells cc 61 (0, 0))) ∧ Hid (ElC cur cc j 3 [.int .i64 (y), .int .i64 (y + 1), .slice a2 l2 c2]) := ⟨_, (hW.block _ (lt_row HR_S1.out) HN2.out.2.1).trans HR_S1.out, HE_S1.out⟩
        have HO2_U1 : Hid (OwnL (d + 1) U1 (.slice a2 l2 c2) (markL (d + 1) (y + 1 + 1) x.Slots).1 f) := hOw
        have HW_U1 : Hid (Wrote (g :: (f)) wr U1) := HW_S1.out.trans (hW.mono HN2.out.2.2.2)
        clear hW hOw
        have HEND : Hid (y2 = q + (sumP (ckFrame d) xs (j + 1) : Nat) ∧ y2 ≤ 1099511627776) := by have := HNX2.out; show _ ∧ _; omega
        have HOX : Hid (FrameO d U1 [.int .i64 (y), .int .i64 (y + 1), .slice a2 l2 c2] (mkFrame d y x) (f)) := by
          have e2 := HY2.out
          subst e2
          exact ⟨_, _, rfl, rfl, HO2_U1.out⟩
        have HFIN : Hid (OwnRow 3 61 (FrameO d) U1 (.slice (some ⟨g, 0, none⟩) len c) (mixL (mkFrame d) (ckFrame d) q xs (j + 1)) fp ∧ Wrote fp w U1) := by
          have h3 := HC.out U1 _ [.int .i64 (y), .int .i64 (y + 1), .slice a2 l2 c2] (mkFrame d y x) HR_U1.out HE_U1.out HOX.out HW_U1.out
          rw [HY.out, mixL_set _ _ _ _ _ _ HX.out] at h3
          exact ⟨h3, HS.out.2.trans (HW_U1.out.mono HFP.out)⟩
        clear HOX HC HR_U1 HE_U1 HW_U1 HO2_U1
        go_wp2_with fail
        go_roundw
        case rel => exact ⟨j + 1, y2, by omega, by go_num, by go_num, HEND.out.1, by omega, HEND.out.2, HFIN⟩
        case measure => simp [intOf]; omega
      · have hjn : xs.length ≤ j := by have := HL.out; omega
        have HF : Hid (y = q + ((xs.map (ckFrame d)).sum : Nat)) := by
          show _ = _
          rw [HY.out]
          have : sumP (ckFrame d) xs j = (xs.map (ckFrame d)).sum := by unfold sumP; rw [List.take_of_length_le hjn]
          rw [this]
        have HO : Hid (OwnRow 3 61 (FrameO d) wr (.slice (some ⟨g, 0, none⟩) len c) (mkL (mkFrame d) (ckFrame d) q xs) fp ∧ Wrote fp w wr) := by
          have := HS.out
          rw [mixL_all _ _ _ _ _ hjn] at this
          exact this
        clear HS
        go_wp2_with fail
        go_ret
        exact HGOAL.out _ _ ⟨tret1 HF.out, HO.out.1, HO.out.2⟩

end Go.Proofs.YtkkdnkdkelligaaGreatDoor

/- What the law reads of its marks on lists of Frame. -/
namespace Go.Proofs.YtkkdnkdkelligaaGreatDoor
open Go.RowKit
set_option linter.unusedVariables false

set_option maxHeartbeats 8000000 in
set_option maxRecDepth 100000 in
theorem heldFrameS_any (d : Nat) : HdLs 51 3 (FrameR d) (mkFrame d) (ckFrame d) := by
  intro v xs q w hr h0 h1 hm
  obtain ⟨a, c, e⟩ := hr.slice
  subst e
  have HE : Hid (RowOf 3 (FrameR d) w (.slice a (mkL (mkFrame d) (ckFrame d) q xs).length c) (mkL (mkFrame d) (ckFrame d) q xs)) := hr
  have HBB : Hid (q + ((xs.map (ckFrame d)).sum : Nat) ≤ 1099511627776) := h1
  skip
  rw [mkL_len] at HE ⊢
  obtain ⟨len, hl⟩ : ∃ len, xs.length = len := ⟨_, rfl⟩
  have HL : Hid (xs.length = len) := hl
  rw [hl] at hm HE ⊢
  clear hl h1 hr
  go_enter Tryz.func51, Tryz.ntmps51
  go_wp2_with fail
  go_loopw [1, 5] (fun x i wr => ∃ (j : Nat) (y : Int), j ≤ len ∧ i = .int .i64 j ∧ x = .int .i64 y ∧ Hid (y = q + (sumP (ckFrame d) xs j : Nat)) ∧ 0 ≤ y ∧ y ≤ 1099511627776 ∧ Below w.heap.size w wr) (fun _ i _ => len - (intOf i).toNat)
  case atStart => exact ⟨0, q, Nat.zero_le _, rfl, rfl, (by show _ = _; rw [sumP_zero']; omega), h0, (by have := HBB.out; omega), Below.refl _ _⟩
  case round =>
    obtain ⟨j, y, hj, rfl, rfl, HY, hy0, hy1, hbw⟩ := hrel
    have HBW : Hid (Below w.heap.size w wr) := hbw
    clear hbw
    by_cases hjl : j < len
    · obtain ⟨x, hx⟩ : ∃ x, xs[j]? = some x := ⟨_, List.getElem?_eq_getElem (by rw [HL.out]; exact hjl)⟩
      have hmx : (mkL (mkFrame d) (ckFrame d) q xs)[j]? = some (mkFrame d y x) := by rw [mkL_at, hx, ← HY.out]; rfl
      have hjl' : (j : Int) < (len : Int) := by omega
      obtain ⟨b, o, a2, c2, rfl, f0, f1, f2, g2⟩ := Frame_at HE.out j _ hmx
      obtain ⟨A2, hA2⟩ : ∃ A, 3 * cntL (d + 1) x.Slots = A := ⟨_, rfl⟩
      have HA2 : Hid (3 * cntL (d + 1) x.Slots = A2) := hA2
      have hst := sumP_succ (ckFrame d) xs j x hx
      have hle := sumP_le (ckFrame d) xs (j + 1)
      have hck : ckFrame d x = 1 + (1 + (A2)) := by rw [← hA2]; rfl
      have hbd : y + (1 + (1 + (A2)) : Nat) ≤ 1099511627776 := by have := HY.out; have := HBB.out; omega
      have HNX : Hid (y + (1 + (1 + (A2)) : Nat) = q + (sumP (ckFrame d) xs (j + 1) : Nat)) := by have := HY.out; show _ = _; omega
      clear hst hle hck hx hmx hA2
      obtain ⟨l2, hl2⟩ : ∃ l, (mkFrame d y x).Slots.length = l := ⟨_, rfl⟩
      rw [hl2] at f2 g2
      have HG2 : Hid (∀ V : World, Below w.heap.size w V → RdL (d + 1) V (.slice a2 l2 c2) (markL (d + 1) (y + 1 + 1) x.Slots).1) := fun V hV => (show RdL (d + 1) w (.slice a2 l2 c2) (markL (d + 1) (y + 1 + 1) x.Slots).1 from g2).later hV
      have HALL : Hid (∀ V : World, Below w.heap.size w V → V.cell? ⟨b, o + j * 3, none⟩ = some (.int .i64 (y)) ∧ V.cell? ⟨b, o + j * 3 + 1, none⟩ = some (.int .i64 (y + 1)) ∧ V.cell? ⟨b, o + j * 3 + 2, none⟩ = some (.slice a2 l2 c2)) := fun V hV => ⟨cell_later hV (show w.cell? ⟨b, o + j * 3, none⟩ = some (.int .i64 (y)) from f0), cell_later hV (show w.cell? ⟨b, o + j * 3 + 1, none⟩ = some (.int .i64 (y + 1)) from f1), cell_later hV (show w.cell? ⟨b, o + j * 3 + 2, none⟩ = some (.slice a2 l2 c2) from f2)⟩
      clear f0 f1 f2  g2 hl2
      obtain ⟨d0, d1, d2⟩ := HALL.out wr HBW.out
      have hC := heldTermS_any (d + 1) (.slice a2 l2 c2) x.Slots (y + 1 + 1) wr (by have h := HG2.out wr HBW.out; exact h) (by omega) (by have := HA2.out; omega)
      obtain ⟨y2, hy2⟩ : ∃ z : Int, y + 1 + 1 + 3 * ((cntL (d + 1) x.Slots : Nat) : Int) = z := ⟨_, rfl⟩
      have HY2 : Hid (y + 1 + 1 + 3 * ((cntL (d + 1) x.Slots : Nat) : Int) = y2) := hy2
      have hq2 : y + 1 + 1 + (A2 : Nat) = y2 := by have := HA2.out; omega
      rw [hy2] at hC
      clear hy2
      have hqb2 : 0 ≤ y2 := by omega
      have hqn2 : ¬ y2 < 0 := by omega
      have hbd2 : y2 + (0 : Nat) ≤ 1099511627776 := by omega
      have HNX2 : Hid (y2 + (0 : Nat) = q + (sumP (ckFrame d) xs (j + 1) : Nat)) := by have := HNX.out; show _ = _; omega
      have HQF2 : Hid (y + 1 + 1 + (3 * cntL (d + 1) x.Slots : Nat) = y2) := by have := HA2.out; show _ = _; omega
      clear hq2
      go_wp2_with fail
      refine hC.mono ?_
      clear hC d0 d1 d2
      rintro e U1 ⟨rfl, hB⟩
      have HB1 : Hid (Below w.heap.size w U1) := HBW.out.trans (hB.mono HBW.out.size)
      clear hB
      obtain ⟨d0, d1, d2⟩ := HALL.out U1 HB1.out
      have HEND : Hid (y2 = q + (sumP (ckFrame d) xs (j + 1) : Nat) ∧ y2 ≤ 1099511627776) := by have := HNX2.out; show _ ∧ _; omega
      go_wp2_with fail
      go_roundw
      case rel => exact ⟨j + 1, y2, by omega, by go_num, by go_num, HEND.out.1, by omega, HEND.out.2, HB1.out⟩
      case measure => simp [intOf]; omega
    · have hjn : xs.length ≤ j := by have := HL.out; omega
      have HF : Hid (y = q + ((xs.map (ckFrame d)).sum : Nat)) := by
        show _ = _
        rw [HY.out]
        have : sumP (ckFrame d) xs j = (xs.map (ckFrame d)).sum := by unfold sumP; rw [List.take_of_length_le hjn]
        rw [this]
      go_wp2_with fail
      go_ret
      exact ⟨tret1 HF.out, HBW.out⟩

end Go.Proofs.YtkkdnkdkelligaaGreatDoor

/- The law's own marks on Vm (its lists), and what it reads of them. -/
namespace Go.Proofs.YtkkdnkdkelligaaGreatDoor
open Go.RowKit
set_option linter.unusedVariables false

def ckSVm (d : Nat) (x : DVm d) : Nat := (x.Frames.map (ckFrame d)).sum + (3 * cntL (d + 1) x.Stack)
def mkSVm (d : Nat) (q : Int) (x : DVm d) : DVm d := ⟨(mkL (mkFrame d) (ckFrame d) (q) x.Frames), (markL (d + 1) (q + ((x.Frames.map (ckFrame d)).sum : Nat)) x.Stack).1⟩

set_option maxHeartbeats 4000000 in
set_option maxRecDepth 100000 in
theorem markVm_any (d : Nat) (vs : List Value) (x : DVm d) (fp : List Nat) (q : Int) (w : World) (hO : VmO d w vs x fp) (hnd : fp.Nodup) (hlt : ∀ g ∈ fp, g < w.heap.size) (h0 : 0 ≤ q) (h1 : q + (ckSVm d x : Nat) ≤ 1099511627776) :
    Calls Tryz.prog 20 #[.agg vs.toArray, .int .i64 q] w fun e w' => e = .returned (.int .i64 (q + (ckSVm d x : Nat))) ∧ VmO d w' vs (mkSVm d q x) fp ∧ Wrote fp w w' := by
  obtain ⟨v0, v1, of0, of1, rfl, efp, oh0, oh1⟩ := hO
  obtain ⟨a0, l0, c0, rfl⟩ := oh0.sl
  obtain ⟨a1, l1, c1, rfl⟩ := oh1.sl
  subst efp
  obtain ⟨A0, hA0⟩ : ∃ A, (x.Frames.map (ckFrame d)).sum = A := ⟨_, rfl⟩
  have HA0 : Hid ((x.Frames.map (ckFrame d)).sum = A0) := hA0
  obtain ⟨A1, hA1⟩ : ∃ A, 3 * cntL (d + 1) x.Stack = A := ⟨_, rfl⟩
  have HA1 : Hid (3 * cntL (d + 1) x.Stack = A1) := hA1
  have hck : ckSVm d x = A0 + (A1) := by rw [← hA0]; rw [← hA1]; rfl
  rw [hck] at h1 ⊢
  obtain ⟨W, hW⟩ : ∃ W, W = w.alloc (.cells #[.slice a0 l0 c0, .slice a1 l1 c1] 41) := ⟨_, rfl⟩
  have hA : Below w.heap.size w W := by rw [hW]; exact (Below.refl _ _).alloc (Nat.le_refl _) _
  have HR_W : Hid (W.heap[w.heap.size]? = some (.cells #[.slice a0 l0 c0, .slice a1 l1 c1] 41 (0, 0))) := by rw [hW]; exact heap_alloc_new w _
  have HN0 : Hid (of0.Nodup ∧ w.heap.size ∉ of0 ∧ (∀ z ∈ of0, z < w.heap.size) ∧ (∀ z ∈ of0, z ∈ of0 ++ (of1))) := ⟨(List.nodup_append.1 hnd).1, fun hz => by have := hlt _ (List.mem_append_left _ hz); omega, fun z hz => hlt z (List.mem_append_left _ hz), fun z hz => List.mem_append_left _ hz⟩
  have HN1 : Hid (of1.Nodup ∧ w.heap.size ∉ of1 ∧ (∀ z ∈ of1, z < w.heap.size) ∧ (∀ z ∈ of1, z ∈ of0 ++ (of1))) := ⟨(List.nodup_append.1 hnd).2.1, fun hz => by have := hlt _ (List.mem_append_right _ (hz)); omega, fun z hz => hlt z (List.mem_append_right _ (hz)), fun z hz => List.mem_append_right _ (hz)⟩
  have HD0_1 : Hid (∀ z ∈ of0, z ∉ of1) := fun z hz hz' => (List.nodup_append.1 hnd).2.2 z hz z hz' rfl
  have HO0_W : Hid (OwnRow 3 61 (FrameO d) W (.slice a0 l0 c0) x.Frames of0) := oh0.frame (FrameO.lasts d) fun z hz => hA.block z (HN0.out.2.2.1 z hz)
  have HO1_W : Hid (OwnL (d + 1) W (.slice a1 l1 c1) x.Stack of1) := oh1.frame fun z hz => hA.block z (HN1.out.2.2.1 z hz)
  have HW_W : Hid (Wrote (of0 ++ (of1)) w W) := Wrote.of_below hA
  have HWW : Hid (W = _) := hW
  clear hnd hlt hck hA hW oh0 hA0 oh1 hA1
  have hC := markFrameS_any d (.slice a0 l0 c0) x.Frames of0 (q) W HO0_W.out HN0.out.1 (fun z hz => Nat.lt_of_lt_of_le (HN0.out.2.2.1 z hz) HW_W.out.size) (by omega) (by have := HA0.out; omega) (len_of_ck HA0.out (ck_pos_Frame d) (by omega))
  obtain ⟨y0, hy0⟩ : ∃ z : Int, q + (((x.Frames.map (ckFrame d)).sum : Nat) : Int) = z := ⟨_, rfl⟩
  have HY0 : Hid (q + (((x.Frames.map (ckFrame d)).sum : Nat) : Int) = y0) := hy0
  have hq0 : q + (A0 : Nat) = y0 := by have := HA0.out; omega
  have HQ0 : Hid (q + (A0 : Nat) = y0) := hq0
  rw [hy0] at hC
  clear hy0
  have hqb0 : 0 ≤ y0 := by omega
  have hbd0 : y0 + (A1 : Nat) ≤ 1099511627776 := by omega
  clear hq0
  rw [HWW.out] at hC
  go_enter Tryz.func20, Tryz.ntmps20
  go_wp2_with fail
  refine hC.mono ?_
  clear hC
  rintro e U0 ⟨rfl, hOw, hWr⟩
  rw [← HWW.out] at hWr
  have HR_U0 : Hid (U0.heap[w.heap.size]? = some (.cells #[.slice a0 l0 c0, .slice a1 l1 c1] 41 (0, 0))) := (hWr.block _ (lt_row HR_W.out) HN0.out.2.1).trans HR_W.out
  have HO1_U0 : Hid (OwnL (d + 1) U0 (.slice a1 l1 c1) x.Stack of1) := HO1_W.out.frame fun z hz => hWr.block z (Nat.lt_of_lt_of_le (HN1.out.2.2.1 z hz) HW_W.out.size) (fun hm => HD0_1.out z hm hz)
  have HO0_U0 : Hid (OwnRow 3 61 (FrameO d) U0 (.slice a0 l0 c0) (mkL (mkFrame d) (ckFrame d) (q) x.Frames) of0) := hOw
  have HW_U0 : Hid (Wrote (of0 ++ (of1)) w U0) := HW_W.out.trans (hWr.mono HN0.out.2.2.2)
  clear hWr hOw
  have hC := markTermS_any (d + 1) (.slice a1 l1 c1) x.Stack of1 (y0) U0 HO1_U0.out HN1.out.1 (by omega) (by have := HA1.out; omega)
  obtain ⟨y1, hy1⟩ : ∃ z : Int, y0 + 3 * ((cntL (d + 1) x.Stack : Nat) : Int) = z := ⟨_, rfl⟩
  have HY1 : Hid (y0 + 3 * ((cntL (d + 1) x.Stack : Nat) : Int) = y1) := hy1
  have hq1 : y0 + (A1 : Nat) = y1 := by have := HA1.out; omega
  have HQ1 : Hid (y0 + (A1 : Nat) = y1) := hq1
  rw [hy1] at hC
  clear hy1
  have hqb1 : 0 ≤ y1 := by omega
  have hbd1 : y1 + (0 : Nat) ≤ 1099511627776 := by omega
  clear hq1
  have d1 : U0.cell? ⟨w.heap.size, 1, none⟩ = some (.slice a1 l1 c1) := by rw [cell_of_row U0 _ 1 _ _ _ HR_U0.out]; rfl
  go_wp2_with fail
  refine hC.mono ?_
  clear hC d1
  rintro e U1 ⟨rfl, hOw, hWr⟩
  have HR_U1 : Hid (U1.heap[w.heap.size]? = some (.cells #[.slice a0 l0 c0, .slice a1 l1 c1] 41 (0, 0))) := (hWr.block _ (lt_row HR_U0.out) HN1.out.2.1).trans HR_U0.out
  have HO0_U1 : Hid (OwnRow 3 61 (FrameO d) U1 (.slice a0 l0 c0) (mkL (mkFrame d) (ckFrame d) (q) x.Frames) of0) := HO0_U0.out.frame (FrameO.lasts d) fun z hz => hWr.block z (Nat.lt_of_lt_of_le (HN0.out.2.2.1 z hz) HW_U0.out.size) (HD0_1.out z hz)
  have HO1_U1 : Hid (OwnL (d + 1) U1 (.slice a1 l1 c1) (markL (d + 1) (y0) x.Stack).1 of1) := hOw
  have HW_U1 : Hid (Wrote (of0 ++ (of1)) w U1) := HW_U0.out.trans (hWr.mono HN1.out.2.2.2)
  clear hWr hOw
  have HEND : Hid (y1 = q + ((A0 + (A1) : Nat) : Int)) := by have := HQ0.out; have := HQ1.out; show _ = _; omega
  have HOX : Hid (VmO d U1 [.slice a0 l0 c0, .slice a1 l1 c1] (mkSVm d q x) (of0 ++ (of1))) := by
    have e0 := HY0.out
    subst e0
    have e1 := HY1.out
    subst e1
    exact ⟨_, _, _, _, rfl, rfl, HO0_U1.out, HO1_U1.out⟩
  go_wp2_with fail
  go_ret
  exact ⟨tret1 HEND.out, HOX.out, HW_U1.out⟩

set_option maxHeartbeats 4000000 in
set_option maxRecDepth 100000 in
theorem heldVm_any (d : Nat) (vs : List Value) (x : DVm d) (q : Int) (w : World) (hR : VmR d w vs (mkSVm d q x)) (h0 : 0 ≤ q) (h1 : q + (ckSVm d x : Nat) ≤ 1099511627776) :
    Calls Tryz.prog 21 #[.agg vs.toArray, .int .i64 q] w fun e w' => e = .returned (.int .i64 (q + (ckSVm d x : Nat))) ∧ Below w.heap.size w w' := by
  obtain ⟨v0, v1, rfl, g0, g1⟩ := hR
  obtain ⟨a0, l0, c0, rfl⟩ := g0.sl
  obtain ⟨a1, l1, c1, rfl⟩ := RdL.shape g1
  obtain ⟨A0, hA0⟩ : ∃ A, (x.Frames.map (ckFrame d)).sum = A := ⟨_, rfl⟩
  have HA0 : Hid ((x.Frames.map (ckFrame d)).sum = A0) := hA0
  obtain ⟨A1, hA1⟩ : ∃ A, 3 * cntL (d + 1) x.Stack = A := ⟨_, rfl⟩
  have HA1 : Hid (3 * cntL (d + 1) x.Stack = A1) := hA1
  have hck : ckSVm d x = A0 + (A1) := by rw [← hA0]; rw [← hA1]; rfl
  rw [hck] at h1 ⊢
  have HG0 : Hid (∀ V : World, Below w.heap.size w V → RowOf 3 (FrameR d) V (.slice a0 l0 c0) (mkL (mkFrame d) (ckFrame d) (q) x.Frames)) := fun V hV => (show RowOf 3 (FrameR d) w (.slice a0 l0 c0) (mkL (mkFrame d) (ckFrame d) (q) x.Frames) from g0).later (FrameR.lasts d) hV
  have HG1 : Hid (∀ V : World, Below w.heap.size w V → RdL (d + 1) V (.slice a1 l1 c1) (markL (d + 1) (q + ((x.Frames.map (ckFrame d)).sum : Nat)) x.Stack).1) := fun V hV => (show RdL (d + 1) w (.slice a1 l1 c1) (markL (d + 1) (q + ((x.Frames.map (ckFrame d)).sum : Nat)) x.Stack).1 from g1).later hV
  obtain ⟨W, hW⟩ : ∃ W, W = w.alloc (.cells #[.slice a0 l0 c0, .slice a1 l1 c1] 41) := ⟨_, rfl⟩
  have HB_W : Hid (Below w.heap.size w W) := by rw [hW]; exact (Below.refl _ _).alloc (Nat.le_refl _) _
  have HR_W : Hid (W.heap[w.heap.size]? = some (.cells #[.slice a0 l0 c0, .slice a1 l1 c1] 41 (0, 0))) := by rw [hW]; exact heap_alloc_new w _
  have HWW : Hid (W = _) := hW
  clear hck hW g0 hA0 g1 hA1
  have hC := heldFrameS_any d (.slice a0 l0 c0) x.Frames (q) W (by have h := HG0.out W HB_W.out; exact h) (by omega) (by have := HA0.out; omega) (len_of_ck HA0.out (ck_pos_Frame d) (by omega))
  obtain ⟨y0, hy0⟩ : ∃ z : Int, q + (((x.Frames.map (ckFrame d)).sum : Nat) : Int) = z := ⟨_, rfl⟩
  have hq0 : q + (A0 : Nat) = y0 := by have := HA0.out; omega
  have HQ0 : Hid (q + (A0 : Nat) = y0) := hq0
  have HQF0 : Hid (q + ((x.Frames.map (ckFrame d)).sum : Nat) = y0) := by have := HA0.out; show _ = _; omega
  rw [hy0] at hC
  clear hy0
  have hqb0 : 0 ≤ y0 := by omega
  have hqn0 : ¬ y0 < 0 := by omega
  have hbd0 : y0 + (A1 : Nat) ≤ 1099511627776 := by omega
  clear hq0
  rw [HWW.out] at hC
  go_enter Tryz.func21, Tryz.ntmps21
  go_wp2_with fail
  refine hC.mono ?_
  clear hC
  rintro e U0 ⟨rfl, hB⟩
  rw [← HWW.out] at hB
  have HR_U0 : Hid (U0.heap[w.heap.size]? = some (.cells #[.slice a0 l0 c0, .slice a1 l1 c1] 41 (0, 0))) := (hB.block _ (lt_row HR_W.out)).trans HR_W.out
  have HB_U0 : Hid (Below w.heap.size w U0) := HB_W.out.trans (hB.mono HB_W.out.size)
  clear hB
  have hC := heldTermS_any (d + 1) (.slice a1 l1 c1) x.Stack (y0) U0 (by have h := HG1.out U0 HB_U0.out; rw [HQF0.out] at h; exact h) (by omega) (by have := HA1.out; omega)
  obtain ⟨y1, hy1⟩ : ∃ z : Int, y0 + 3 * ((cntL (d + 1) x.Stack : Nat) : Int) = z := ⟨_, rfl⟩
  have hq1 : y0 + (A1 : Nat) = y1 := by have := HA1.out; omega
  have HQ1 : Hid (y0 + (A1 : Nat) = y1) := hq1
  have HQF1 : Hid (q + ((x.Frames.map (ckFrame d)).sum : Nat) + (3 * cntL (d + 1) x.Stack : Nat) = y1) := by have := HA1.out; have := HQF0.out; show _ = _; omega
  rw [hy1] at hC
  clear hy1
  have hqb1 : 0 ≤ y1 := by omega
  have hqn1 : ¬ y1 < 0 := by omega
  have hbd1 : y1 + (0 : Nat) ≤ 1099511627776 := by omega
  clear hq1
  have d1 : U0.cell? ⟨w.heap.size, 1, none⟩ = some (.slice a1 l1 c1) := by rw [cell_of_row U0 _ 1 _ _ _ HR_U0.out]; rfl
  go_wp2_with fail
  refine hC.mono ?_
  clear hC d1
  rintro e U1 ⟨rfl, hB⟩
  have HR_U1 : Hid (U1.heap[w.heap.size]? = some (.cells #[.slice a0 l0 c0, .slice a1 l1 c1] 41 (0, 0))) := (hB.block _ (lt_row HR_U0.out)).trans HR_U0.out
  have HB_U1 : Hid (Below w.heap.size w U1) := HB_U0.out.trans (hB.mono HB_U0.out.size)
  clear hB
  have HEND : Hid (y1 = q + ((A0 + (A1) : Nat) : Int)) := by have := HQ0.out; have := HQ1.out; show _ = _; omega
  go_wp2_with fail
  go_ret
  exact ⟨tret1 HEND.out, HB_U1.out⟩

end Go.Proofs.YtkkdnkdkelligaaGreatDoor
