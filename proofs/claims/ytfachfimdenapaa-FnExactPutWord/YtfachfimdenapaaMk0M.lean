/- The law's own marks on rows of structs, of whatever kind: what a row is behind some of its elements. -/
import Derived.Test.YtfachfimdenapaaDt0M
import Derived.Test.YtfachfimdenapaaMarkTM
import Derived.Test.YtfachfimdenapaaOkM
import Derived.BigQuiet
namespace Go.Proofs.Ytfachfimdenapaa
open Go.RowKit
set_option linter.unusedVariables false

/-- The cells of one element of a row, some of them written anew. -/
structure ElC (cur curc : Array Value) (j k : Nat) (vals : List Value) : Prop where
  size : curc.size = cur.size
  out : ∀ x, x < j * k ∨ j * k + k ≤ x → curc[x]? = cur[x]?
  len : vals.length = k
  room : j * k + k ≤ cur.size
  cell : ∀ (m : Nat) (u : Value), vals[m]? = some u → curc[j * k + m]? = some u

theorem ElC.put {cur curc : Array Value} {j k m : Nat} {vals vs vals' : List Value} (h : ElC cur curc j k vals) (hm : m + vs.length ≤ k) (hv : vals' = vals.take m ++ (vs ++ vals.drop (m + vs.length))) : ElC cur (putL curc (j * k + m) vs) j k vals' := by
  have hl := h.len
  refine ⟨(putL_size _ _ _).trans h.size, fun x hx => ?_, ?_, h.room, fun n u hu => ?_⟩
  · rw [putL_other _ _ _ _ (by omega)]; exact h.out x hx
  · rw [hv]; simp; omega
  · rw [hv] at hu
    rcases Nat.lt_or_ge n m with q | q
    · rw [List.getElem?_append_left (by simp; omega), List.getElem?_take, if_pos q] at hu
      rw [putL_other _ _ _ _ (by omega)]
      exact h.cell n u hu
    · rw [List.getElem?_append_right (by simp; omega)] at hu
      have e1 : (vals.take m).length = m := by simp; omega
      rw [e1] at hu
      rcases Nat.lt_or_ge (n - m) vs.length with r | r
      · rw [List.getElem?_append_left r] at hu
        have := putL_at vs curc (j * k + m) (n - m) u (by rw [h.size]; have := h.room; omega) hu
        rw [show j * k + m + (n - m) = j * k + n by omega] at this
        exact this
      · rw [List.getElem?_append_right r, List.getElem?_drop] at hu
        rw [putL_other _ _ _ _ (by omega)]
        refine h.cell n u ?_
        rw [show m + vs.length + (n - m - vs.length) = n by omega] at hu
        exact hu

theorem ElC.read {w : World} {g j k m : Nat} {cur curc : Array Value} {T : TypeId} {vals : List Value} {u : Value} (h : ElC cur curc j k vals) (hh : w.heap[g]? = some (.cells curc T (0, 0))) (hu : vals[m]? = some u) : w.cell? ⟨g, j * k + m, none⟩ = some u := by
  rw [cell_of_row w _ _ _ _ _ hh]; exact h.cell m u hu

theorem setL_wrote : ∀ (vs : List Value) (w : World) (g o : Nat), Wrote [g] w (setL w g o vs) := by
  intro vs
  induction vs with
  | nil => intro w g o; exact Wrote.refl _ _
  | cons v vs ih => intro w g o; exact (Wrote.of_set w g o v).trans (ih _ _ _)

theorem len_of_ck {α : Type} {ck : α → Nat} {xs : List α} {A : Nat} (h : (xs.map ck).sum = A) (hp : ∀ x, 1 ≤ ck x) (hA : A ≤ 1099511627776) : xs.length ≤ 1099511627776 := by
  have : xs.length ≤ (xs.map ck).sum := by
    clear h hA
    induction xs with
    | nil => exact Nat.zero_le _
    | cons x r ih => simp only [List.length_cons, List.map_cons, List.sum_cons]; have := hp x; omega
  omega

section
variable {α : Type} {k : Nat} {T : TypeId} {O : World → List Value → α → List Nat → Prop}

/-- One element of a row is opened; whatever is written into it and into what hangs on it, the row is the same row with that element anew. -/
theorem own_mark (hO : LastsO O) {wr : World} {g n c : Nat} {xs : List α} {fp : List Nat} (hk : 0 < k) (hown : OwnRow k T O wr (.slice (some ⟨g, 0, none⟩) n c) xs fp) (hnd : fp.Nodup) (hlt : ∀ y ∈ fp, y < wr.heap.size) {j : Nat} {x : α} (hx : xs[j]? = some x) :
    ∃ cur vs f, wr.heap[g]? = some (.cells cur T (0, 0)) ∧ ElC cur cur j k vs ∧ O wr vs x f ∧ (f.Nodup ∧ g ∉ f ∧ (∀ y ∈ f, y < wr.heap.size) ∧ (∀ y ∈ f, y ∈ fp) ∧ g ∈ fp) ∧
      ∀ (w2 : World) (cur2 : Array Value) (vs' : List Value) (x' : α), w2.heap[g]? = some (.cells cur2 T (0, 0)) → ElC cur cur2 j k vs' → O w2 vs' x' f → Wrote (g :: f) wr w2 → OwnRow k T O w2 (.slice (some ⟨g, 0, none⟩) n c) (xs.set j x') fp := by
  rcases hown with ⟨rfl, _, _⟩ | ⟨g', c', cur, fps, e1, h2, ⟨h3, h3'⟩, rfl, h4⟩
  · simp at hx
  · simp only [Value.slice.injEq, Option.some.injEq, Addr.mk.injEq, and_true] at e1
    obtain ⟨rfl, rfl, rfl⟩ := e1
    obtain ⟨vs, f, q1, q2, q3, q4⟩ := h4 j x hx
    have hgn := List.nodup_cons.1 hnd
    have hfm : ∀ y ∈ f, y ∈ fps.flatten := fun y hy => List.mem_flatten.2 ⟨f, List.mem_of_getElem? q1, hy⟩
    have hroom : j * k + k ≤ cur.size := by
      have := (Array.getElem?_eq_some_iff.1 (q3 (k - 1) vs[k - 1] (List.getElem?_eq_getElem (by omega)))).1
      omega
    refine ⟨cur, vs, f, h2, ⟨rfl, fun _ _ => rfl, q2, hroom, q3⟩, q4, ⟨(nodup_fl fps hgn.2).1 f (List.mem_of_getElem? q1), fun hm => hgn.1 (hfm _ hm), fun y hy => hlt y (List.mem_cons_of_mem _ (hfm y hy)), fun y hy => List.mem_cons_of_mem _ (hfm y hy), List.mem_cons_self ..⟩, fun w2 cur2 vs' x' hh hE hO2 hW => ?_⟩
    refine .inr ⟨g, c, cur2, fps, by simp, hh, ⟨by simpa using h3, by simpa using h3'⟩, rfl, fun i y hy => ?_⟩
    by_cases hij : i = j
    · subst hij
      have hjl : i < xs.length := (List.getElem?_eq_some_iff.1 hx).1
      rw [List.getElem?_set_self hjl] at hy
      cases hy
      exact ⟨vs', f, q1, hE.len, hE.cell, hO2⟩
    · rw [List.getElem?_set_ne (fun e => hij e.symm)] at hy
      obtain ⟨us, f', r1, r2, r3, r4⟩ := h4 i y hy
      refine ⟨us, f', r1, r2, fun m u hu => ?_, hO _ _ _ _ _ r4 fun z hz => ?_⟩
      · have hm : m < k := by have := (List.getElem?_eq_some_iff.1 hu).1; omega
        rw [hE.out _ (by
          rcases Nat.lt_or_gt_of_ne hij with q | q
          · left
            have : (i + 1) * k ≤ j * k := Nat.mul_le_mul_right k q
            rw [Nat.add_mul, Nat.one_mul] at this
            omega
          · right
            have : (j + 1) * k ≤ i * k := Nat.mul_le_mul_right k q
            rw [Nat.add_mul, Nat.one_mul] at this
            omega)]
        exact r3 m u hu
      · have hzf : z ∈ fps.flatten := List.mem_flatten.2 ⟨f', List.mem_of_getElem? r1, hz⟩
        refine hW.block z (hlt z (List.mem_cons_of_mem _ hzf)) fun hm => ?_
        rcases List.mem_cons.1 hm with rfl | hm
        · exact hgn.1 hzf
        · rcases Nat.lt_or_gt_of_ne hij with q | q
          · exact (nodup_fl fps hgn.2).2 i j f' f q r1 q1 z hz hm
          · exact (nodup_fl fps hgn.2).2 j i f f' q q1 r1 z hm hz

/-- A list that is marked one by one. -/
def mkL (mk : Int → α → α) (ck : α → Nat) : Int → List α → List α
  | _, [] => []
  | q, x :: r => mk q x :: mkL mk ck (q + (ck x : Nat)) r

theorem sumP_cons' (f : α → Nat) (x : α) (xs : List α) (i : Nat) : sumP f (x :: xs) (i + 1) = f x + sumP f xs i := by simp [sumP]
theorem sumP_zero' (f : α → Nat) (xs : List α) : sumP f xs 0 = 0 := by simp [sumP]

theorem mkL_at (mk : Int → α → α) (ck : α → Nat) : ∀ (xs : List α) (q : Int) (i : Nat), (mkL mk ck q xs)[i]? = (xs[i]?).map (mk (q + (sumP ck xs i : Nat))) := by
  intro xs
  induction xs with
  | nil => intro q i; simp [mkL]
  | cons b r ih =>
    intro q i
    cases i with
    | zero => simp [mkL, sumP_zero']
    | succ i =>
      rw [mkL, List.getElem?_cons_succ, List.getElem?_cons_succ, ih, sumP_cons']
      congr 2
      omega
theorem mkL_len (mk : Int → α → α) (ck : α → Nat) : ∀ (xs : List α) (q : Int), (mkL mk ck q xs).length = xs.length := by
  intro xs
  induction xs with
  | nil => intro q; rfl
  | cons b r ih => intro q; rw [mkL, List.length_cons, List.length_cons, ih]

def mixL (mk : Int → α → α) (ck : α → Nat) (q : Int) (xs : List α) (j : Nat) : List α := (mkL mk ck q xs).take j ++ xs.drop j

theorem mixL_zero (mk : Int → α → α) (ck : α → Nat) (q : Int) (xs : List α) : mixL mk ck q xs 0 = xs := by simp [mixL]
theorem mixL_all (mk : Int → α → α) (ck : α → Nat) (q : Int) (xs : List α) (j : Nat) (h : xs.length ≤ j) : mixL mk ck q xs j = mkL mk ck q xs := by
  unfold mixL
  rw [List.take_of_length_le (by rw [mkL_len]; exact h), List.drop_of_length_le h, List.append_nil]
theorem mixL_len (mk : Int → α → α) (ck : α → Nat) (q : Int) (xs : List α) (j : Nat) : (mixL mk ck q xs j).length = xs.length := by
  unfold mixL
  rw [List.length_append, List.length_take, List.length_drop, mkL_len]
  omega
theorem mixL_at (mk : Int → α → α) (ck : α → Nat) (q : Int) (xs : List α) (j i : Nat) (h : j ≤ i) : (mixL mk ck q xs j)[i]? = xs[i]? := by
  unfold mixL
  rcases Nat.lt_or_ge i xs.length with hi | hi
  · rw [List.getElem?_append_right (by rw [List.length_take, mkL_len]; omega), List.getElem?_drop, List.length_take, mkL_len]
    congr 1
    omega
  · have h1 : ((mkL mk ck q xs).take j ++ xs.drop j).length = xs.length := mixL_len mk ck q xs j
    rw [List.getElem?_eq_none (by rw [h1]; exact hi), List.getElem?_eq_none hi]
theorem mixL_set (mk : Int → α → α) (ck : α → Nat) (q : Int) (xs : List α) (j : Nat) (x : α) (hx : xs[j]? = some x) : (mixL mk ck q xs j).set j (mk (q + (sumP ck xs j : Nat)) x) = mixL mk ck q xs (j + 1) := by
  have hj := (List.getElem?_eq_some_iff.1 hx).1
  apply List.ext_getElem?
  intro i
  by_cases hij : i = j
  · subst hij
    rw [List.getElem?_set_self (by rw [mixL_len]; exact hj)]
    unfold mixL
    rw [List.getElem?_append_left (by rw [List.length_take, mkL_len]; omega), List.getElem?_take, if_pos (by omega), mkL_at, hx]
    rfl
  · rw [List.getElem?_set_ne (fun e => hij e.symm)]
    rcases Nat.lt_or_gt_of_ne hij with h | h
    · unfold mixL
      rw [List.getElem?_append_left (by rw [List.length_take, mkL_len]; omega), List.getElem?_append_left (by rw [List.length_take, mkL_len]; omega), List.getElem?_take, List.getElem?_take, if_pos h, if_pos (by omega)]
    · rw [mixL_at _ _ _ _ _ _ (by omega), mixL_at _ _ _ _ _ _ (by omega)]
end

/-- The contract of the law's marks on a list; of what it reads of them. -/
def MkLs {α : Type} (F k : Nat) (T : TypeId) (O : World → List Value → α → List Nat → Prop) (mk : Int → α → α) (ck : α → Nat) : Prop := ∀ (v : Value) (xs : List α) (fp : List Nat) (q : Int) (w : World), OwnRow k T O w v xs fp → fp.Nodup → (∀ g ∈ fp, g < w.heap.size) → 0 ≤ q → q + ((xs.map ck).sum : Nat) ≤ 1099511627776 → xs.length ≤ 1099511627776 →
  Calls Try.prog F #[v, .int .i64 q] w fun e w' => e = .returned (.int .i64 (q + ((xs.map ck).sum : Nat))) ∧ OwnRow k T O w' v (mkL mk ck q xs) fp ∧ Wrote fp w w'
def HdLs {α : Type} (F k : Nat) (R : World → List Value → α → Prop) (mk : Int → α → α) (ck : α → Nat) : Prop := ∀ (v : Value) (xs : List α) (q : Int) (w : World), RowOf k R w v (mkL mk ck q xs) → 0 ≤ q → q + ((xs.map ck).sum : Nat) ≤ 1099511627776 → xs.length ≤ 1099511627776 →
  Calls Try.prog F #[v, .int .i64 q] w fun e w' => e = .returned (.int .i64 (q + ((xs.map ck).sum : Nat))) ∧ Below w.heap.size w w'

def mkI (q : Int) (n : Int) : Int := q
def ckI (n : Int) : Nat := 1

end Go.Proofs.Ytfachfimdenapaa

/- The law's own marks on lists of Send. -/
namespace Go.Proofs.Ytfachfimdenapaa
open Go.RowKit
set_option linter.unusedVariables false

def ckSend (d : Nat) (x : DSend d) : Nat := 1 + (1 + (1 + (3 * cntL d x.To.L + (1 + (1 + (1 + (3 * cntL d x.T.L)))))))
def mkSend (d : Nat) (q : Int) (x : DSend d) : DSend d := ⟨((q, q + 1, mt (q + 1 + 1), (markL d (q + 1 + 1 + 1) x.To.L).1) : Int × Int × ByteArray × List (Tm d)), ((q + 1 + 1 + 1 + (3 * cntL d x.To.L : Nat), q + 1 + 1 + 1 + (3 * cntL d x.To.L : Nat) + 1, mt (q + 1 + 1 + 1 + (3 * cntL d x.To.L : Nat) + 1 + 1), (markL d (q + 1 + 1 + 1 + (3 * cntL d x.To.L : Nat) + 1 + 1 + 1) x.T.L).1) : Int × Int × ByteArray × List (Tm d))⟩

theorem ck_pos_Send (d : Nat) (x : DSend d) : 1 ≤ ckSend d x := by unfold ckSend; omega

set_option maxHeartbeats 8000000 in
set_option maxRecDepth 100000 in
theorem markSendS_any (d : Nat) : MkLs 22 8 65 (SendO d) (mkSend d) (ckSend d) := by
  intro v xs fp q w hown hnd hlt h0 h1 hm
  rcases hown with ⟨rfl, rfl, a, c, rfl⟩ | ⟨g, c, cur0, fps, rfl, hh0, ⟨hfl, hcap⟩, rfl, hel⟩
  · go_enter Try.func22, Try.ntmps22
    go_wp2
    refine wp_loop_rounds 1 ?_
    rw [rounds_succ]
    go_wp2
    go_ret
    exact ⟨tret1 (by simp), .inl ⟨rfl, rfl, a, c, rfl⟩, Wrote.refl _ _⟩
  · have H0 : Hid (OwnRow 8 65 (SendO d) w (.slice (some ⟨g, 0, none⟩) xs.length c) (mixL (mkSend d) (ckSend d) q xs 0) (g :: fps.flatten)) := by
      rw [mixL_zero]
      exact .inr ⟨g, c, cur0, fps, rfl, hh0, ⟨hfl, hcap⟩, rfl, hel⟩
    have HND : Hid ((g :: fps.flatten).Nodup) := hnd
    have HLT : Hid (∀ y ∈ (g :: fps.flatten), y < w.heap.size) := hlt
    have HBB : Hid (q + ((xs.map (ckSend d)).sum : Nat) ≤ 1099511627776) := h1
    obtain ⟨fp, hfp⟩ : ∃ f, g :: fps.flatten = f := ⟨_, rfl⟩
    rw [hfp] at HND HLT H0
    obtain ⟨len, hl⟩ : ∃ len, xs.length = len := ⟨_, rfl⟩
    have HL : Hid (xs.length = len) := hl
    rw [hl] at hm H0 ⊢
    have HGOAL : Hid (∀ (e : Ending) (w' : World), (e = .returned (.int .i64 (q + ((xs.map (ckSend d)).sum : Nat))) ∧ OwnRow 8 65 (SendO d) w' (.slice (some ⟨g, 0, none⟩) len c) (mkL (mkSend d) (ckSend d) q xs) fp ∧ Wrote fp w w') → (e = .returned (.int .i64 (q + ((xs.map (ckSend d)).sum : Nat))) ∧ OwnRow 8 65 (SendO d) w' (.slice (some ⟨g, 0, none⟩) len c) (mkL (mkSend d) (ckSend d) q xs) (g :: fps.flatten) ∧ Wrote (g :: fps.flatten) w w')) := fun e w' h => by rw [hfp]; exact h
    skip
    clear hel hl hnd hfl h1 hcap hh0 hlt hfp
    go_enter Try.func22, Try.ntmps22
    go_wp2_with fail
    go_loopw [1, 5] (fun x i wr => ∃ (j : Nat) (y : Int), j ≤ len ∧ i = .int .i64 j ∧ x = .int .i64 y ∧ Hid (y = q + (sumP (ckSend d) xs j : Nat)) ∧ 0 ≤ y ∧ y ≤ 1099511627776 ∧ Hid (OwnRow 8 65 (SendO d) wr (.slice (some ⟨g, 0, none⟩) len c) (mixL (mkSend d) (ckSend d) q xs j) fp ∧ Wrote fp w wr)) (fun _ i _ => len - (intOf i).toNat)
    case atStart => exact ⟨0, q, Nat.zero_le _, rfl, rfl, (by show _ = _; rw [sumP_zero']; omega), h0, (by have := HBB.out; omega), H0.out, Wrote.refl _ _⟩
    case round =>
      obtain ⟨j, y, hj, rfl, rfl, HY, hy0, hy1, HS⟩ := hrel
      clear H0
      by_cases hjl : j < len
      · obtain ⟨x, hx⟩ : ∃ x, xs[j]? = some x := ⟨_, List.getElem?_eq_getElem (by rw [HL.out]; exact hjl)⟩
        have HLT2 : Hid (∀ z ∈ fp, z < wr.heap.size) := fun z hz => Nat.lt_of_lt_of_le (HLT.out z hz) HS.out.2.size
        have HX : Hid (xs[j]? = some x) := hx
        obtain ⟨cur, vs, f, hh, hE, hO, ⟨hf1, hf2, hf3, hf4, hf5⟩, hclose⟩ := own_mark (SendO.lasts d) (by omega) HS.out.1 HND.out HLT2.out (by rw [mixL_at _ _ _ _ _ _ (Nat.le_refl _)]; exact hx)
        obtain ⟨v0, v1, v2, v3, v4, v5, v6, v7, of0, of4, rfl, efp, oh0, oh4⟩ := hO
        obtain ⟨w0, ew0, oh0⟩ := oh0
        cases ew0
        obtain ⟨a3, l3, c3, rfl⟩ := oh0.sl
        obtain ⟨w4, ew4, oh4⟩ := oh4
        cases ew4
        obtain ⟨a7, l7, c7, rfl⟩ := oh4.sl
        subst efp
        have hjl' : (j : Int) < (len : Int) := by omega
        have hst := sumP_succ (ckSend d) xs j x hx
        have hle := sumP_le (ckSend d) xs (j + 1)
        obtain ⟨A3, hA3⟩ : ∃ A, 3 * cntL d x.To.L = A := ⟨_, rfl⟩
        have HA3 : Hid (3 * cntL d x.To.L = A3) := hA3
        obtain ⟨A7, hA7⟩ : ∃ A, 3 * cntL d x.T.L = A := ⟨_, rfl⟩
        have HA7 : Hid (3 * cntL d x.T.L = A7) := hA7
        have hck : ckSend d x = 1 + (1 + (1 + (A3 + (1 + (1 + (1 + (A7))))))) := by rw [← hA3]; rw [← hA7]; rfl
        have hbd : y + (1 + (1 + (1 + (A3 + (1 + (1 + (1 + (A7))))))) : Nat) ≤ 1099511627776 := by have := HY.out; have := HBB.out; omega
        have HNX : Hid (y + (1 + (1 + (1 + (A3 + (1 + (1 + (1 + (A7))))))) : Nat) = q + (sumP (ckSend d) xs (j + 1) : Nat)) := by have := HY.out; show _ = _; omega
        have HN3 : Hid (of0.Nodup ∧ g ∉ of0 ∧ (∀ z ∈ of0, z < wr.heap.size) ∧ (∀ z ∈ of0, z ∈ g :: (of0 ++ (of4)))) := ⟨(List.nodup_append.1 hf1).1, fun hz => hf2 (List.mem_append_left _ hz), fun z hz => hf3 z (List.mem_append_left _ hz), fun z hz => List.mem_cons_of_mem _ (List.mem_append_left _ hz)⟩
        have HN7 : Hid (of4.Nodup ∧ g ∉ of4 ∧ (∀ z ∈ of4, z < wr.heap.size) ∧ (∀ z ∈ of4, z ∈ g :: (of0 ++ (of4)))) := ⟨(List.nodup_append.1 hf1).2.1, fun hz => hf2 (List.mem_append_right _ (hz)), fun z hz => hf3 z (List.mem_append_right _ (hz)), fun z hz => List.mem_cons_of_mem _ (List.mem_append_right _ (hz))⟩
        have HD3_7 : Hid (∀ z ∈ of0, z ∉ of4) := fun z hz hz' => (List.nodup_append.1 hf1).2.2 z hz z hz' rfl
        have HFP : Hid (∀ z ∈ g :: (of0 ++ (of4)), z ∈ fp) := fun z hz => by rcases List.mem_cons.1 hz with rfl | hz; exact hf5; exact hf4 z hz
        have HC : Hid _ := hclose
        have HR_wr : Hid (wr.heap[g]? = some (.cells cur 65 (0, 0))) := hh
        have HE_wr : Hid (ElC cur cur j 8 [.int .i64 x.To.K, .int .i64 x.To.N, .string x.To.S, .slice a3 l3 c3, .int .i64 x.T.K, .int .i64 x.T.N, .string x.T.S, .slice a7 l7 c7]) := hE
        have HO3_wr : Hid (OwnL d wr (.slice a3 l3 c3) x.To.L of0) := oh0
        have HO7_wr : Hid (OwnL d wr (.slice a7 l7 c7) x.T.L of4) := oh4
        have HW_wr : Hid (Wrote (g :: (of0 ++ (of4))) wr wr) := Wrote.refl _ _
        clear hh hE hclose hf1 hf2 hf3 hf4 hf5 hst hle hck hx oh0 oh4 hA3 hA7
        have s0 : wr.cell? ⟨g, j * 8, none⟩ = some (.int .i64 x.To.K) := by have := HE_wr.out.read (m := 0) HR_wr.out rfl; rw [Nat.add_zero] at this; exact this
        have z0 : wr.frozen? ⟨g, j * 8, none⟩ = false := frozen_of_row wr _ _ _ _ HR_wr.out
        have s1 : wr.cell? ⟨g, j * 8 + 1, none⟩ = some (.int .i64 x.To.N) := HE_wr.out.read (m := 1) HR_wr.out rfl
        have z1 : wr.frozen? ⟨g, j * 8 + 1, none⟩ = false := frozen_of_row wr _ _ _ _ HR_wr.out
        obtain ⟨S1, hS1⟩ : ∃ S, S = (wr.setCell ⟨g, j * 8, none⟩ (.int .i64 (y))).setCell ⟨g, j * 8 + 1, none⟩ (.int .i64 (y + 1)) := ⟨_, rfl⟩
        have hS1' : S1 = setL wr g (j * 8 + 0) [.int .i64 (y), .int .i64 (y + 1)] := hS1
        obtain ⟨qS1, HR_S1, HE_S1⟩ : ∃ cc, Hid (S1.heap[g]? = some (.cells cc 65 (0, 0))) ∧ Hid (ElC cur cc j 8 [.int .i64 (y), .int .i64 (y + 1), .string x.To.S, .slice a3 l3 c3, .int .i64 x.T.K, .int .i64 x.T.N, .string x.T.S, .slice a7 l7 c7]) := ⟨_, (by show S1.heap[g]? = _; rw [hS1']; exact setL_row _ _ _ _ _ _ HR_wr.out), HE_wr.out.put (m := 0) (vs := [.int .i64 (y), .int .i64 (y + 1)]) (by simp) rfl⟩
        have hkS1 : ∀ z, z ≠ g → S1.heap[z]? = wr.heap[z]? := fun z hz => by rw [hS1']; exact setL_other _ _ _ _ _ hz
        have HO3_S1 : Hid (OwnL d S1 (.slice a3 l3 c3) x.To.L of0) := HO3_wr.out.frame fun z hz => hkS1 z (fun e => HN3.out.2.1 (e ▸ hz))
        have HO7_S1 : Hid (OwnL d S1 (.slice a7 l7 c7) x.T.L of4) := HO7_wr.out.frame fun z hz => hkS1 z (fun e => HN7.out.2.1 (e ▸ hz))
        have HW_S1 : Hid (Wrote (g :: (of0 ++ (of4))) wr S1) := HW_wr.out.trans (by rw [hS1']; exact (setL_wrote _ _ _ _).mono fun z hz => by obtain rfl := List.mem_singleton.1 hz; exact List.mem_cons_self ..)
        have hC := markText_any (y + 1 + 1) S1 (by omega) (by omega)
        rw [hS1] at hC
        have HS_S1 : Hid (S1 = _) := hS1
        clear hS1 hS1' hkS1
        go_wp2_with fail
        refine hC.mono ?_
        clear hC s0 z0 s1 z1
        rintro e U1 ⟨rfl, hB⟩
        rw [← HS_S1.out] at hB
        obtain ⟨qU1, HR_U1, HE_U1⟩ : ∃ cc, Hid (U1.heap[g]? = some (.cells cc 65 (0, 0))) ∧ Hid (ElC cur cc j 8 [.int .i64 (y), .int .i64 (y + 1), .string x.To.S, .slice a3 l3 c3, .int .i64 x.T.K, .int .i64 x.T.N, .string x.T.S, .slice a7 l7 c7]) := ⟨_, (hB.block _ (lt_row HR_S1.out)).trans HR_S1.out, HE_S1.out⟩
        have HO3_U1 : Hid (OwnL d U1 (.slice a3 l3 c3) x.To.L of0) := HO3_S1.out.frame fun z hz => hB.block z (Nat.lt_of_lt_of_le (HN3.out.2.2.1 z hz) HW_S1.out.size)
        have HO7_U1 : Hid (OwnL d U1 (.slice a7 l7 c7) x.T.L of4) := HO7_S1.out.frame fun z hz => hB.block z (Nat.lt_of_lt_of_le (HN7.out.2.2.1 z hz) HW_S1.out.size)
        have HW_U1 : Hid (Wrote (g :: (of0 ++ (of4))) wr U1) := HW_S1.out.trans (Wrote.of_below hB)
        clear hB
        have s2 : U1.cell? ⟨g, j * 8 + 2, none⟩ = some (.string x.To.S) := HE_U1.out.read (m := 2) HR_U1.out rfl
        have z2 : U1.frozen? ⟨g, j * 8 + 2, none⟩ = false := frozen_of_row U1 _ _ _ _ HR_U1.out
        have ld3 : U1.cell? ⟨g, j * 8 + 3, none⟩ = some (.slice a3 l3 c3) := HE_U1.out.read (m := 3) HR_U1.out rfl
        obtain ⟨S2, hS2⟩ : ∃ S, S = U1.setCell ⟨g, j * 8 + 2, none⟩ (.string (mt (y + 1 + 1))) := ⟨_, rfl⟩
        have hS2' : S2 = setL U1 g (j * 8 + 2) [.string (mt (y + 1 + 1))] := hS2
        obtain ⟨qS2, HR_S2, HE_S2⟩ : ∃ cc, Hid (S2.heap[g]? = some (.cells cc 65 (0, 0))) ∧ Hid (ElC cur cc j 8 [.int .i64 (y), .int .i64 (y + 1), .string (mt (y + 1 + 1)), .slice a3 l3 c3, .int .i64 x.T.K, .int .i64 x.T.N, .string x.T.S, .slice a7 l7 c7]) := ⟨_, (by show S2.heap[g]? = _; rw [hS2']; exact setL_row _ _ _ _ _ _ HR_U1.out), HE_U1.out.put (m := 2) (vs := [.string (mt (y + 1 + 1))]) (by simp) rfl⟩
        have hkS2 : ∀ z, z ≠ g → S2.heap[z]? = U1.heap[z]? := fun z hz => by rw [hS2']; exact setL_other _ _ _ _ _ hz
        have HO3_S2 : Hid (OwnL d S2 (.slice a3 l3 c3) x.To.L of0) := HO3_U1.out.frame fun z hz => hkS2 z (fun e => HN3.out.2.1 (e ▸ hz))
        have HO7_S2 : Hid (OwnL d S2 (.slice a7 l7 c7) x.T.L of4) := HO7_U1.out.frame fun z hz => hkS2 z (fun e => HN7.out.2.1 (e ▸ hz))
        have HW_S2 : Hid (Wrote (g :: (of0 ++ (of4))) wr S2) := HW_U1.out.trans (by rw [hS2']; exact (setL_wrote _ _ _ _).mono fun z hz => by obtain rfl := List.mem_singleton.1 hz; exact List.mem_cons_self ..)
        have hC := markTermS_any d (.slice a3 l3 c3) x.To.L of0 (y + 1 + 1 + 1) S2 HO3_S2.out HN3.out.1 (by omega) (by have := HA3.out; omega)
        obtain ⟨y3, hy3⟩ : ∃ z : Int, y + 1 + 1 + 1 + 3 * ((cntL d x.To.L : Nat) : Int) = z := ⟨_, rfl⟩
        have HY3 : Hid (y + 1 + 1 + 1 + 3 * ((cntL d x.To.L : Nat) : Int) = y3) := hy3
        have hq3 : y + 1 + 1 + 1 + (A3 : Nat) = y3 := by have := HA3.out; omega
        rw [hy3] at hC
        clear hy3
        have hqb3 : 0 ≤ y3 := by omega
        have HQ3 : Hid (y + 1 + 1 + 1 + (A3 : Nat) = y3) := hq3
        have hbd3 : y3 + (1 + (1 + (1 + (A7))) : Nat) ≤ 1099511627776 := by omega
        have HNX3 : Hid (y3 + (1 + (1 + (1 + (A7))) : Nat) = q + (sumP (ckSend d) xs (j + 1) : Nat)) := by have := HNX.out; show _ = _; omega
        clear hq3
        rw [hS2] at hC
        have HS_S2 : Hid (S2 = _) := hS2
        clear hS2 hS2' hkS2
        go_wp2_with fail
        refine hC.mono ?_
        clear hC s2 z2 ld3
        rintro e U2 ⟨rfl, hOw, hW⟩
        rw [← HS_S2.out] at hW
        obtain ⟨qU2, HR_U2, HE_U2⟩ : ∃ cc, Hid (U2.heap[g]? = some (.cells cc 65 (0, 0))) ∧ Hid (ElC cur cc j 8 [.int .i64 (y), .int .i64 (y + 1), .string (mt (y + 1 + 1)), .slice a3 l3 c3, .int .i64 x.T.K, .int .i64 x.T.N, .string x.T.S, .slice a7 l7 c7]) := ⟨_, (hW.block _ (lt_row HR_S2.out) HN3.out.2.1).trans HR_S2.out, HE_S2.out⟩
        have HO7_U2 : Hid (OwnL d U2 (.slice a7 l7 c7) x.T.L of4) := HO7_S2.out.frame fun z hz => hW.block z (Nat.lt_of_lt_of_le (HN7.out.2.2.1 z hz) HW_S2.out.size) (fun hm => HD3_7.out z hm hz)
        have HO3_U2 : Hid (OwnL d U2 (.slice a3 l3 c3) (markL d (y + 1 + 1 + 1) x.To.L).1 of0) := hOw
        have HW_U2 : Hid (Wrote (g :: (of0 ++ (of4))) wr U2) := HW_S2.out.trans (hW.mono HN3.out.2.2.2)
        clear hW hOw
        have s4 : U2.cell? ⟨g, j * 8 + 4, none⟩ = some (.int .i64 x.T.K) := HE_U2.out.read (m := 4) HR_U2.out rfl
        have z4 : U2.frozen? ⟨g, j * 8 + 4, none⟩ = false := frozen_of_row U2 _ _ _ _ HR_U2.out
        have s5 : U2.cell? ⟨g, j * 8 + 5, none⟩ = some (.int .i64 x.T.N) := HE_U2.out.read (m := 5) HR_U2.out rfl
        have z5 : U2.frozen? ⟨g, j * 8 + 5, none⟩ = false := frozen_of_row U2 _ _ _ _ HR_U2.out
        obtain ⟨S3, hS3⟩ : ∃ S, S = (U2.setCell ⟨g, j * 8 + 4, none⟩ (.int .i64 (y3))).setCell ⟨g, j * 8 + 5, none⟩ (.int .i64 (y3 + 1)) := ⟨_, rfl⟩
        have hS3' : S3 = setL U2 g (j * 8 + 4) [.int .i64 (y3), .int .i64 (y3 + 1)] := hS3
        obtain ⟨qS3, HR_S3, HE_S3⟩ : ∃ cc, Hid (S3.heap[g]? = some (.cells cc 65 (0, 0))) ∧ Hid (ElC cur cc j 8 [.int .i64 (y), .int .i64 (y + 1), .string (mt (y + 1 + 1)), .slice a3 l3 c3, .int .i64 (y3), .int .i64 (y3 + 1), .string x.T.S, .slice a7 l7 c7]) := ⟨_, (by show S3.heap[g]? = _; rw [hS3']; exact setL_row _ _ _ _ _ _ HR_U2.out), HE_U2.out.put (m := 4) (vs := [.int .i64 (y3), .int .i64 (y3 + 1)]) (by simp) rfl⟩
        have hkS3 : ∀ z, z ≠ g → S3.heap[z]? = U2.heap[z]? := fun z hz => by rw [hS3']; exact setL_other _ _ _ _ _ hz
        have HO3_S3 : Hid (OwnL d S3 (.slice a3 l3 c3) (markL d (y + 1 + 1 + 1) x.To.L).1 of0) := HO3_U2.out.frame fun z hz => hkS3 z (fun e => HN3.out.2.1 (e ▸ hz))
        have HO7_S3 : Hid (OwnL d S3 (.slice a7 l7 c7) x.T.L of4) := HO7_U2.out.frame fun z hz => hkS3 z (fun e => HN7.out.2.1 (e ▸ hz))
        have HW_S3 : Hid (Wrote (g :: (of0 ++ (of4))) wr S3) := HW_U2.out.trans (by rw [hS3']; exact (setL_wrote _ _ _ _).mono fun z hz => by obtain rfl := List.mem_singleton.1 hz; exact List.mem_cons_self ..)
        have hC := markText_any (y3 + 1 + 1) S3 (by omega) (by omega)
        rw [hS3] at hC
        have HS_S3 : Hid (S3 = _) := hS3
        clear hS3 hS3' hkS3
        go_wp2_with fail
        refine hC.mono ?_
        clear hC s4 z4 s5 z5
        rintro e U3 ⟨rfl, hB⟩
        rw [← HS_S3.out] at hB
        obtain ⟨qU3, HR_U3, HE_U3⟩ : ∃ cc, Hid (U3.heap[g]? = some (.cells cc 65 (0, 0))) ∧ Hid (ElC cur cc j 8 [.int .i64 (y), .int .i64 (y + 1), .string (mt (y + 1 + 1)), .slice a3 l3 c3, .int .i64 (y3), .int .i64 (y3 + 1), .string x.T.S, .slice a7 l7 c7]) := ⟨_, (hB.block _ (lt_row HR_S3.out)).trans HR_S3.out, HE_S3.out⟩
        have HO3_U3 : Hid (OwnL d U3 (.slice a3 l3 c3) (markL d (y + 1 + 1 + 1) x.To.L).1 of0) := HO3_S3.out.frame fun z hz => hB.block z (Nat.lt_of_lt_of_le (HN3.out.2.2.1 z hz) HW_S3.out.size)
        have HO7_U3 : Hid (OwnL d U3 (.slice a7 l7 c7) x.T.L of4) := HO7_S3.out.frame fun z hz => hB.block z (Nat.lt_of_lt_of_le (HN7.out.2.2.1 z hz) HW_S3.out.size)
        have HW_U3 : Hid (Wrote (g :: (of0 ++ (of4))) wr U3) := HW_S3.out.trans (Wrote.of_below hB)
        clear hB
        have s6 : U3.cell? ⟨g, j * 8 + 6, none⟩ = some (.string x.T.S) := HE_U3.out.read (m := 6) HR_U3.out rfl
        have z6 : U3.frozen? ⟨g, j * 8 + 6, none⟩ = false := frozen_of_row U3 _ _ _ _ HR_U3.out
        have ld7 : U3.cell? ⟨g, j * 8 + 7, none⟩ = some (.slice a7 l7 c7) := HE_U3.out.read (m := 7) HR_U3.out rfl
        obtain ⟨S4, hS4⟩ : ∃ S, S = U3.setCell ⟨g, j * 8 + 6, none⟩ (.string (mt (y3 + 1 + 1))) := ⟨_, rfl⟩
        have hS4' : S4 = setL U3 g (j * 8 + 6) [.string (mt (y3 + 1 + 1))] := hS4
        obtain ⟨qS4, HR_S4, HE_S4⟩ : ∃ cc, Hid (S4.heap[g]? = some (.cells cc 65 (0, 0))) ∧ Hid (ElC cur cc j 8 [.int .i64 (y), .int .i64 (y + 1), .string (mt (y + 1 + 1)), .slice a3 l3 c3, .int .i64 (y3), .int .i64 (y3 + 1), .string (mt (y3 + 1 + 1)), .slice a7 l7 c7]) := ⟨_, (by show S4.heap[g]? = _; rw [hS4']; exact setL_row _ _ _ _ _ _ HR_U3.out), HE_U3.out.put (m := 6) (vs := [.string (mt (y3 + 1 + 1))]) (by simp) rfl⟩
        have hkS4 : ∀ z, z ≠ g → S4.heap[z]? = U3.heap[z]? := fun z hz => by rw [hS4']; exact setL_other _ _ _ _ _ hz
        have HO3_S4 : Hid (OwnL d S4 (.slice a3 l3 c3) (markL d (y + 1 + 1 + 1) x.To.L).1 of0) := HO3_U3.out.frame fun z hz => hkS4 z (fun e => HN3.out.2.1 (e ▸ hz))
        have HO7_S4 : Hid (OwnL d S4 (.slice a7 l7 c7) x.T.L of4) := HO7_U3.out.frame fun z hz => hkS4 z (fun e => HN7.out.2.1 (e ▸ hz))
        have HW_S4 : Hid (Wrote (g :: (of0 ++ (of4))) wr S4) := HW_U3.out.trans (by rw [hS4']; exact (setL_wrote _ _ _ _).mono fun z hz => by obtain rfl := List.mem_singleton.1 hz; exact List.mem_cons_self ..)
        have hC := markTermS_any d (.slice a7 l7 c7) x.T.L of4 (y3 + 1 + 1 + 1) S4 HO7_S4.out HN7.out.1 (by omega) (by have := HA7.out; omega)
        obtain ⟨y7, hy7⟩ : ∃ z : Int, y3 + 1 + 1 + 1 + 3 * ((cntL d x.T.L : Nat) : Int) = z := ⟨_, rfl⟩
        have HY7 : Hid (y3 + 1 + 1 + 1 + 3 * ((cntL d x.T.L : Nat) : Int) = y7) := hy7
        have hq7 : y3 + 1 + 1 + 1 + (A7 : Nat) = y7 := by have := HA7.out; omega
        rw [hy7] at hC
        clear hy7
        have hqb7 : 0 ≤ y7 := by omega
        have HQ7 : Hid (y3 + 1 + 1 + 1 + (A7 : Nat) = y7) := hq7
        have hbd7 : y7 + (0 : Nat) ≤ 1099511627776 := by omega
        have HNX7 : Hid (y7 + (0 : Nat) = q + (sumP (ckSend d) xs (j + 1) : Nat)) := by have := HNX3.out; show _ = _; omega
        clear hq7
        rw [hS4] at hC
        have HS_S4 : Hid (S4 = _) := hS4
        clear hS4 hS4' hkS4
        go_wp2_with fail
        refine hC.mono ?_
        clear hC s6 z6 ld7
        rintro e U4 ⟨rfl, hOw, hW⟩
        rw [← HS_S4.out] at hW
        obtain ⟨qU4, HR_U4, HE_U4⟩ : ∃ cc, Hid (U4.heap[g]? = some (.cells cc 65 (0, 0))) ∧ Hid (ElC cur cc j 8 [.int .i64 (y), .int .i64 (y + 1), .string (mt (y + 1 + 1)), .slice a3 l3 c3, .int .i64 (y3), .int .i64 (y3 + 1), .string (mt (y3 + 1 + 1)), .slice a7 l7 c7]) := ⟨_, (hW.block _ (lt_row HR_S4.out) HN7.out.2.1).trans HR_S4.out, HE_S4.out⟩
        have HO3_U4 : Hid (OwnL d U4 (.slice a3 l3 c3) (markL d (y + 1 + 1 + 1) x.To.L).1 of0) := HO3_S4.out.frame fun z hz => hW.block z (Nat.lt_of_lt_of_le (HN3.out.2.2.1 z hz) HW_S4.out.size) (HD3_7.out z hz)
        have HO7_U4 : Hid (OwnL d U4 (.slice a7 l7 c7) (markL d (y3 + 1 + 1 + 1) x.T.L).1 of4) := hOw
        have HW_U4 : Hid (Wrote (g :: (of0 ++ (of4))) wr U4) := HW_S4.out.trans (hW.mono HN7.out.2.2.2)
        clear hW hOw
        have HEND : Hid (y7 = q + (sumP (ckSend d) xs (j + 1) : Nat) ∧ y7 ≤ 1099511627776) := by have := HNX7.out; show _ ∧ _; omega
        have HOX : Hid (SendO d U4 [.int .i64 (y), .int .i64 (y + 1), .string (mt (y + 1 + 1)), .slice a3 l3 c3, .int .i64 (y3), .int .i64 (y3 + 1), .string (mt (y3 + 1 + 1)), .slice a7 l7 c7] (mkSend d y x) (of0 ++ (of4))) := by
          have e3 := HY3.out
          subst e3
          have e7 := HY7.out
          subst e7
          exact ⟨_, _, _, _, _, _, _, _, _, _, rfl, rfl, ⟨_, rfl, HO3_U4.out⟩, ⟨_, rfl, HO7_U4.out⟩⟩
        have HFIN : Hid (OwnRow 8 65 (SendO d) U4 (.slice (some ⟨g, 0, none⟩) len c) (mixL (mkSend d) (ckSend d) q xs (j + 1)) fp ∧ Wrote fp w U4) := by
          have h3 := HC.out U4 _ [.int .i64 (y), .int .i64 (y + 1), .string (mt (y + 1 + 1)), .slice a3 l3 c3, .int .i64 (y3), .int .i64 (y3 + 1), .string (mt (y3 + 1 + 1)), .slice a7 l7 c7] (mkSend d y x) HR_U4.out HE_U4.out HOX.out HW_U4.out
          rw [HY.out, mixL_set _ _ _ _ _ _ HX.out] at h3
          exact ⟨h3, HS.out.2.trans (HW_U4.out.mono HFP.out)⟩
        clear HOX HC HR_U4 HE_U4 HW_U4 HO3_U4 HO7_U4
        go_wp2_with fail
        go_roundw
        case rel => exact ⟨j + 1, y7, by omega, by go_num, by go_num, HEND.out.1, by omega, HEND.out.2, HFIN⟩
        case measure => simp [intOf]; omega
      · have hjn : xs.length ≤ j := by have := HL.out; omega
        have HF : Hid (y = q + ((xs.map (ckSend d)).sum : Nat)) := by
          show _ = _
          rw [HY.out]
          have : sumP (ckSend d) xs j = (xs.map (ckSend d)).sum := by unfold sumP; rw [List.take_of_length_le hjn]
          rw [this]
        have HO : Hid (OwnRow 8 65 (SendO d) wr (.slice (some ⟨g, 0, none⟩) len c) (mkL (mkSend d) (ckSend d) q xs) fp ∧ Wrote fp w wr) := by
          have := HS.out
          rw [mixL_all _ _ _ _ _ hjn] at this
          exact this
        clear HS
        go_wp2_with fail
        go_ret
        exact HGOAL.out _ _ ⟨tret1 HF.out, HO.out.1, HO.out.2⟩

end Go.Proofs.Ytfachfimdenapaa

/- What the law reads of its marks on lists of numbers. -/
namespace Go.Proofs.Ytfachfimdenapaa
open Go.RowKit
set_option linter.unusedVariables false

end Go.Proofs.Ytfachfimdenapaa

/- What the law reads of its marks on lists of Send. -/
namespace Go.Proofs.Ytfachfimdenapaa
open Go.RowKit
set_option linter.unusedVariables false

set_option maxHeartbeats 8000000 in
set_option maxRecDepth 100000 in
theorem heldSendS_any (d : Nat) : HdLs 23 8 (SendR d) (mkSend d) (ckSend d) := by
  intro v xs q w hr h0 h1 hm
  obtain ⟨a, c, e⟩ := hr.slice
  subst e
  have HE : Hid (RowOf 8 (SendR d) w (.slice a (mkL (mkSend d) (ckSend d) q xs).length c) (mkL (mkSend d) (ckSend d) q xs)) := hr
  have HBB : Hid (q + ((xs.map (ckSend d)).sum : Nat) ≤ 1099511627776) := h1
  skip
  rw [mkL_len] at HE ⊢
  obtain ⟨len, hl⟩ : ∃ len, xs.length = len := ⟨_, rfl⟩
  have HL : Hid (xs.length = len) := hl
  rw [hl] at hm HE ⊢
  clear hl h1 hr
  go_enter Try.func23, Try.ntmps23
  go_wp2_with fail
  go_loopw [1, 5] (fun x i wr => ∃ (j : Nat) (y : Int), j ≤ len ∧ i = .int .i64 j ∧ x = .int .i64 y ∧ Hid (y = q + (sumP (ckSend d) xs j : Nat)) ∧ 0 ≤ y ∧ y ≤ 1099511627776 ∧ Below w.heap.size w wr) (fun _ i _ => len - (intOf i).toNat)
  case atStart => exact ⟨0, q, Nat.zero_le _, rfl, rfl, (by show _ = _; rw [sumP_zero']; omega), h0, (by have := HBB.out; omega), Below.refl _ _⟩
  case round =>
    obtain ⟨j, y, hj, rfl, rfl, HY, hy0, hy1, hbw⟩ := hrel
    have HBW : Hid (Below w.heap.size w wr) := hbw
    clear hbw
    by_cases hjl : j < len
    · obtain ⟨x, hx⟩ : ∃ x, xs[j]? = some x := ⟨_, List.getElem?_eq_getElem (by rw [HL.out]; exact hjl)⟩
      have hmx : (mkL (mkSend d) (ckSend d) q xs)[j]? = some (mkSend d y x) := by rw [mkL_at, hx, ← HY.out]; rfl
      have hjl' : (j : Int) < (len : Int) := by omega
      obtain ⟨b, o, i0, i1, s2, a3, l3, c3, i4, i5, s6, a7, l7, c7, rfl, f0, f1, f2, f3, f4, f5, f6, f7, g0, g4⟩ := Send_at HE.out j _ hmx
      obtain ⟨w0, ew0, g3⟩ := g0
      cases ew0
      obtain ⟨w4, ew4, g7⟩ := g4
      cases ew4
      obtain ⟨A3, hA3⟩ : ∃ A, 3 * cntL d x.To.L = A := ⟨_, rfl⟩
      have HA3 : Hid (3 * cntL d x.To.L = A3) := hA3
      obtain ⟨A7, hA7⟩ : ∃ A, 3 * cntL d x.T.L = A := ⟨_, rfl⟩
      have HA7 : Hid (3 * cntL d x.T.L = A7) := hA7
      have hst := sumP_succ (ckSend d) xs j x hx
      have hle := sumP_le (ckSend d) xs (j + 1)
      have hck : ckSend d x = 1 + (1 + (1 + (A3 + (1 + (1 + (1 + (A7))))))) := by rw [← hA3]; rw [← hA7]; rfl
      have hbd : y + (1 + (1 + (1 + (A3 + (1 + (1 + (1 + (A7))))))) : Nat) ≤ 1099511627776 := by have := HY.out; have := HBB.out; omega
      have HNX : Hid (y + (1 + (1 + (1 + (A3 + (1 + (1 + (1 + (A7))))))) : Nat) = q + (sumP (ckSend d) xs (j + 1) : Nat)) := by have := HY.out; show _ = _; omega
      clear hst hle hck hx hmx hA3 hA7
      obtain ⟨M2, hM2⟩ : ∃ M, mt (y + 1 + 1) = M := ⟨_, rfl⟩
      obtain ⟨M6, hM6⟩ : ∃ M, mt (y + 1 + 1 + 1 + (3 * cntL d x.To.L : Nat) + 1 + 1) = M := ⟨_, rfl⟩
      have HG3 : Hid (∀ V : World, Below w.heap.size w V → RdL d V (.slice a3 l3 c3) (markL d (y + 1 + 1 + 1) x.To.L).1) := fun V hV => (show RdL d w (.slice a3 l3 c3) (markL d (y + 1 + 1 + 1) x.To.L).1 from g3).later hV
      have HG7 : Hid (∀ V : World, Below w.heap.size w V → RdL d V (.slice a7 l7 c7) (markL d (y + 1 + 1 + 1 + (3 * cntL d x.To.L : Nat) + 1 + 1 + 1) x.T.L).1) := fun V hV => (show RdL d w (.slice a7 l7 c7) (markL d (y + 1 + 1 + 1 + (3 * cntL d x.To.L : Nat) + 1 + 1 + 1) x.T.L).1 from g7).later hV
      have HALL : Hid (∀ V : World, Below w.heap.size w V → V.cell? ⟨b, o + j * 8, none⟩ = some (.int .i64 (y)) ∧ V.cell? ⟨b, o + j * 8 + 1, none⟩ = some (.int .i64 (y + 1)) ∧ V.cell? ⟨b, o + j * 8 + 2, none⟩ = some (.string M2) ∧ V.cell? ⟨b, o + j * 8 + 3, none⟩ = some (.slice a3 l3 c3) ∧ V.cell? ⟨b, o + j * 8 + 4, none⟩ = some (.int .i64 (y + 1 + 1 + 1 + (3 * cntL d x.To.L : Nat))) ∧ V.cell? ⟨b, o + j * 8 + 5, none⟩ = some (.int .i64 (y + 1 + 1 + 1 + (3 * cntL d x.To.L : Nat) + 1)) ∧ V.cell? ⟨b, o + j * 8 + 6, none⟩ = some (.string M6) ∧ V.cell? ⟨b, o + j * 8 + 7, none⟩ = some (.slice a7 l7 c7)) := fun V hV => ⟨cell_later hV (show w.cell? ⟨b, o + j * 8, none⟩ = some (.int .i64 (y)) from f0), cell_later hV (show w.cell? ⟨b, o + j * 8 + 1, none⟩ = some (.int .i64 (y + 1)) from f1), cell_later hV (show w.cell? ⟨b, o + j * 8 + 2, none⟩ = some (.string M2) from (by rw [← hM2]; exact f2)), cell_later hV (show w.cell? ⟨b, o + j * 8 + 3, none⟩ = some (.slice a3 l3 c3) from f3), cell_later hV (show w.cell? ⟨b, o + j * 8 + 4, none⟩ = some (.int .i64 (y + 1 + 1 + 1 + (3 * cntL d x.To.L : Nat))) from f4), cell_later hV (show w.cell? ⟨b, o + j * 8 + 5, none⟩ = some (.int .i64 (y + 1 + 1 + 1 + (3 * cntL d x.To.L : Nat) + 1)) from f5), cell_later hV (show w.cell? ⟨b, o + j * 8 + 6, none⟩ = some (.string M6) from (by rw [← hM6]; exact f6)), cell_later hV (show w.cell? ⟨b, o + j * 8 + 7, none⟩ = some (.slice a7 l7 c7) from f7)⟩
      have HM2 : Hid (mt (y + 1 + 1) = M2) := hM2
      have HM6 : Hid (mt (y + 1 + 1 + 1 + (3 * cntL d x.To.L : Nat) + 1 + 1) = M6) := hM6
      clear f0 f1 f2 f3 f4 f5 f6 f7 hM2 hM6 g3 g7
      obtain ⟨d0, d1, d2, d3, d4, d5, d6, d7⟩ := HALL.out wr HBW.out
      have HT2 : Hid (∀ V : World, Below wr.heap.size wr V → Calls Try.prog 44 #[.int .i64 (y + 1 + 1)] V fun e w' => e = .returned (.string M2) ∧ Below V.heap.size V w') := fun V _ => by rw [← HM2.out]; exact markText_any (y + 1 + 1) V (by omega) (by omega)
      have hn0 := After.some wr
      have p2 := After.cell d2
      go_wp2_with fail
      refine wp_region_after (by kernel_rfl) (by kernel_rfl) ?_
      repeat (go_big_quiet_step ((go_at_call 44; exact calls_after (HT2.out _ (After.bel _)))))
      refine wpQuiet_nil ?_
      rintro _ ⟨nq1, rfl⟩
      obtain ⟨U1, hU1⟩ : ∃ U, nq1.now = U := ⟨_, rfl⟩
      have HB1 : Hid (Below w.heap.size w U1) := by rw [← hU1]; exact HBW.out.trans (nq1.bel.mono HBW.out.size)
      rw [hU1]
      clear hU1 HT2 p2 hn0 d0 d1 d2 d3 d4 d5 d6 d7
      obtain ⟨d0, d1, d2, d3, d4, d5, d6, d7⟩ := HALL.out U1 HB1.out
      have hC := heldTermS_any d (.slice a3 l3 c3) x.To.L (y + 1 + 1 + 1) U1 (by have h := HG3.out U1 HB1.out; exact h) (by omega) (by have := HA3.out; omega)
      obtain ⟨y3, hy3⟩ : ∃ z : Int, y + 1 + 1 + 1 + 3 * ((cntL d x.To.L : Nat) : Int) = z := ⟨_, rfl⟩
      have HY3 : Hid (y + 1 + 1 + 1 + 3 * ((cntL d x.To.L : Nat) : Int) = y3) := hy3
      have hq3 : y + 1 + 1 + 1 + (A3 : Nat) = y3 := by have := HA3.out; omega
      rw [hy3] at hC
      clear hy3
      have hqb3 : 0 ≤ y3 := by omega
      have hqn3 : ¬ y3 < 0 := by omega
      have hbd3 : y3 + (1 + (1 + (1 + (A7))) : Nat) ≤ 1099511627776 := by omega
      have HNX3 : Hid (y3 + (1 + (1 + (1 + (A7))) : Nat) = q + (sumP (ckSend d) xs (j + 1) : Nat)) := by have := HNX.out; show _ = _; omega
      have HQF3 : Hid (y + 1 + 1 + 1 + (3 * cntL d x.To.L : Nat) = y3) := by have := HA3.out; show _ = _; omega
      clear hq3
      go_wp2_with fail
      refine hC.mono ?_
      clear hC d0 d1 d2 d3 d4 d5 d6 d7
      rintro e U2 ⟨rfl, hB⟩
      have HB2 : Hid (Below w.heap.size w U2) := HB1.out.trans (hB.mono HB1.out.size)
      clear hB
      obtain ⟨d0, d1, d2, d3, d4, d5, d6, d7⟩ := HALL.out U2 HB2.out
      rw [HQF3.out] at d4
      rw [HQF3.out] at d5
      have HT6 : Hid (∀ V : World, Below U2.heap.size U2 V → Calls Try.prog 44 #[.int .i64 (y3 + 1 + 1)] V fun e w' => e = .returned (.string M6) ∧ Below V.heap.size V w') := fun V _ => by rw [← HM6.out]; exact (by have e := HQF3.out; rw [← e]; exact markText_any _ V (by omega) (by omega))
      have hn0 := After.some U2
      have p6 := After.cell d6
      go_wp2_with fail
      refine wp_region_after (by kernel_rfl) (by kernel_rfl) ?_
      repeat (go_big_quiet_step ((go_at_call 44; exact calls_after (HT6.out _ (After.bel _)))))
      refine wpQuiet_nil ?_
      rintro _ ⟨nq3, rfl⟩
      obtain ⟨U3, hU3⟩ : ∃ U, nq3.now = U := ⟨_, rfl⟩
      have HB3 : Hid (Below w.heap.size w U3) := by rw [← hU3]; exact HB2.out.trans (nq3.bel.mono HB2.out.size)
      rw [hU3]
      clear hU3 HT6 p6 hn0 d0 d1 d2 d3 d4 d5 d6 d7
      obtain ⟨d0, d1, d2, d3, d4, d5, d6, d7⟩ := HALL.out U3 HB3.out
      rw [HQF3.out] at d4
      rw [HQF3.out] at d5
      have hC := heldTermS_any d (.slice a7 l7 c7) x.T.L (y3 + 1 + 1 + 1) U3 (by have h := HG7.out U3 HB3.out; rw [HQF3.out] at h; exact h) (by omega) (by have := HA7.out; omega)
      obtain ⟨y7, hy7⟩ : ∃ z : Int, y3 + 1 + 1 + 1 + 3 * ((cntL d x.T.L : Nat) : Int) = z := ⟨_, rfl⟩
      have HY7 : Hid (y3 + 1 + 1 + 1 + 3 * ((cntL d x.T.L : Nat) : Int) = y7) := hy7
      have hq7 : y3 + 1 + 1 + 1 + (A7 : Nat) = y7 := by have := HA7.out; omega
      rw [hy7] at hC
      clear hy7
      have hqb7 : 0 ≤ y7 := by omega
      have hqn7 : ¬ y7 < 0 := by omega
      have hbd7 : y7 + (0 : Nat) ≤ 1099511627776 := by omega
      have HNX7 : Hid (y7 + (0 : Nat) = q + (sumP (ckSend d) xs (j + 1) : Nat)) := by have := HNX3.out; show _ = _; omega
      have HQF7 : Hid (y + 1 + 1 + 1 + (3 * cntL d x.To.L : Nat) + 1 + 1 + 1 + (3 * cntL d x.T.L : Nat) = y7) := by have := HA7.out; have := HQF3.out; show _ = _; omega
      clear hq7
      go_wp2_with fail
      refine hC.mono ?_
      clear hC d0 d1 d2 d3 d4 d5 d6 d7
      rintro e U4 ⟨rfl, hB⟩
      have HB4 : Hid (Below w.heap.size w U4) := HB3.out.trans (hB.mono HB3.out.size)
      clear hB
      obtain ⟨d0, d1, d2, d3, d4, d5, d6, d7⟩ := HALL.out U4 HB4.out
      have HEND : Hid (y7 = q + (sumP (ckSend d) xs (j + 1) : Nat) ∧ y7 ≤ 1099511627776) := by have := HNX7.out; show _ ∧ _; omega
      go_wp2_with fail
      go_roundw
      case rel => exact ⟨j + 1, y7, by omega, by go_num, by go_num, HEND.out.1, by omega, HEND.out.2, HB4.out⟩
      case measure => simp [intOf]; omega
    · have hjn : xs.length ≤ j := by have := HL.out; omega
      have HF : Hid (y = q + ((xs.map (ckSend d)).sum : Nat)) := by
        show _ = _
        rw [HY.out]
        have : sumP (ckSend d) xs j = (xs.map (ckSend d)).sum := by unfold sumP; rw [List.take_of_length_le hjn]
        rw [this]
      go_wp2_with fail
      go_ret
      exact ⟨tret1 HF.out, HBW.out⟩

end Go.Proofs.Ytfachfimdenapaa
