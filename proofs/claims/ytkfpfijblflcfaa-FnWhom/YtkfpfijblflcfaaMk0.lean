/- The law's own marks on rows of structs, of whatever kind: what a row is behind some of its elements. -/
import Derived.Test.YtkfpfijblflcfaaDt0
import Derived.Test.YtkfpfijblflcfaaHeldT
namespace Go.Proofs.Ytkfpfijblflcfaa
open Go.RowKit
set_option linter.unusedVariables false

/-- The cells of one element of a row, some of them written anew. -/
structure ElC (cur curc : Array Value) (j k : Nat) (vals : List Value) : Prop where
  size : curc.size = cur.size
  out : ∀ x, x < j * k ∨ j * k + k ≤ x → curc[x]? = cur[x]?
  len : vals.length = k
  room : j * k + k ≤ cur.size
  cell : ∀ (m : Nat) (u : Value), vals[m]? = some u → curc[j * k + m]? = some u

theorem ElC.put {cur curc : Array Value} {j k m : Nat} {vals vs vals' : List Value} (h : ElC cur curc j k vals) (hm : m + vs.length ≤ k) (hv : vals' = vals.take m ++ (vs ++ vals.drop (m + vs.length))) : ElC cur (putL curc (j * k + m) vs) j k vals' := by
  have hl := h.len
  refine ⟨(putL_size _ _ _).trans h.size, fun x hx => ?_, ?_, h.room, fun n u hu => ?_⟩
  · rw [putL_other _ _ _ _ (by omega)]; exact h.out x hx
  · rw [hv]; simp; omega
  · rw [hv] at hu
    rcases Nat.lt_or_ge n m with q | q
    · rw [List.getElem?_append_left (by simp; omega), List.getElem?_take, if_pos q] at hu
      rw [putL_other _ _ _ _ (by omega)]
      exact h.cell n u hu
    · rw [List.getElem?_append_right (by simp; omega)] at hu
      have e1 : (vals.take m).length = m := by simp; omega
      rw [e1] at hu
      rcases Nat.lt_or_ge (n - m) vs.length with r | r
      · rw [List.getElem?_append_left r] at hu
        have := putL_at vs curc (j * k + m) (n - m) u (by rw [h.size]; have := h.room; omega) hu
        rw [show j * k + m + (n - m) = j * k + n by omega] at this
        exact this
      · rw [List.getElem?_append_right r, List.getElem?_drop] at hu
        rw [putL_other _ _ _ _ (by omega)]
        refine h.cell n u ?_
        rw [show m + vs.length + (n - m - vs.length) = n by omega] at hu
        exact hu

theorem ElC.read {w : World} {g j k m : Nat} {cur curc : Array Value} {T : TypeId} {vals : List Value} {u : Value} (h : ElC cur curc j k vals) (hh : w.heap[g]? = some (.cells curc T (0, 0))) (hu : vals[m]? = some u) : w.cell? ⟨g, j * k + m, none⟩ = some u := by
  rw [cell_of_row w _ _ _ _ _ hh]; exact h.cell m u hu

theorem setL_wrote : ∀ (vs : List Value) (w : World) (g o : Nat), Wrote [g] w (setL w g o vs) := by
  intro vs
  induction vs with
  | nil => intro w g o; exact Wrote.refl _ _
  | cons v vs ih => intro w g o; exact (Wrote.of_set w g o v).trans (ih _ _ _)

theorem len_of_ck {α : Type} {ck : α → Nat} {xs : List α} {A : Nat} (h : (xs.map ck).sum = A) (hp : ∀ x, 1 ≤ ck x) (hA : A ≤ 1099511627776) : xs.length ≤ 1099511627776 := by
  have : xs.length ≤ (xs.map ck).sum := by
    clear h hA
    induction xs with
    | nil => exact Nat.zero_le _
    | cons x r ih => simp only [List.length_cons, List.map_cons, List.sum_cons]; have := hp x; omega
  omega

section
variable {α : Type} {k : Nat} {T : TypeId} {O : World → List Value → α → List Nat → Prop}

/-- One element of a row is opened; whatever is written into it and into what hangs on it, the row is the same row with that element anew. -/
theorem own_mark (hO : LastsO O) {wr : World} {g n c : Nat} {xs : List α} {fp : List Nat} (hk : 0 < k) (hown : OwnRow k T O wr (.slice (some ⟨g, 0, none⟩) n c) xs fp) (hnd : fp.Nodup) (hlt : ∀ y ∈ fp, y < wr.heap.size) {j : Nat} {x : α} (hx : xs[j]? = some x) :
    ∃ cur vs f, wr.heap[g]? = some (.cells cur T (0, 0)) ∧ ElC cur cur j k vs ∧ O wr vs x f ∧ (f.Nodup ∧ g ∉ f ∧ (∀ y ∈ f, y < wr.heap.size) ∧ (∀ y ∈ f, y ∈ fp) ∧ g ∈ fp) ∧
      ∀ (w2 : World) (cur2 : Array Value) (vs' : List Value) (x' : α), w2.heap[g]? = some (.cells cur2 T (0, 0)) → ElC cur cur2 j k vs' → O w2 vs' x' f → Wrote (g :: f) wr w2 → OwnRow k T O w2 (.slice (some ⟨g, 0, none⟩) n c) (xs.set j x') fp := by
  rcases hown with ⟨rfl, _, _⟩ | ⟨g', c', cur, fps, e1, h2, ⟨h3, h3'⟩, rfl, h4⟩
  · simp at hx
  · simp only [Value.slice.injEq, Option.some.injEq, Addr.mk.injEq, and_true] at e1
    obtain ⟨rfl, rfl, rfl⟩ := e1
    obtain ⟨vs, f, q1, q2, q3, q4⟩ := h4 j x hx
    have hgn := List.nodup_cons.1 hnd
    have hfm : ∀ y ∈ f, y ∈ fps.flatten := fun y hy => List.mem_flatten.2 ⟨f, List.mem_of_getElem? q1, hy⟩
    have hroom : j * k + k ≤ cur.size := by
      have := (Array.getElem?_eq_some_iff.1 (q3 (k - 1) vs[k - 1] (List.getElem?_eq_getElem (by omega)))).1
      omega
    refine ⟨cur, vs, f, h2, ⟨rfl, fun _ _ => rfl, q2, hroom, q3⟩, q4, ⟨(nodup_fl fps hgn.2).1 f (List.mem_of_getElem? q1), fun hm => hgn.1 (hfm _ hm), fun y hy => hlt y (List.mem_cons_of_mem _ (hfm y hy)), fun y hy => List.mem_cons_of_mem _ (hfm y hy), List.mem_cons_self ..⟩, fun w2 cur2 vs' x' hh hE hO2 hW => ?_⟩
    refine .inr ⟨g, c, cur2, fps, by simp, hh, ⟨by simpa using h3, by simpa using h3'⟩, rfl, fun i y hy => ?_⟩
    by_cases hij : i = j
    · subst hij
      have hjl : i < xs.length := (List.getElem?_eq_some_iff.1 hx).1
      rw [List.getElem?_set_self hjl] at hy
      cases hy
      exact ⟨vs', f, q1, hE.len, hE.cell, hO2⟩
    · rw [List.getElem?_set_ne (fun e => hij e.symm)] at hy
      obtain ⟨us, f', r1, r2, r3, r4⟩ := h4 i y hy
      refine ⟨us, f', r1, r2, fun m u hu => ?_, hO _ _ _ _ _ r4 fun z hz => ?_⟩
      · have hm : m < k := by have := (List.getElem?_eq_some_iff.1 hu).1; omega
        rw [hE.out _ (by
          rcases Nat.lt_or_gt_of_ne hij with q | q
          · left
            have : (i + 1) * k ≤ j * k := Nat.mul_le_mul_right k q
            rw [Nat.add_mul, Nat.one_mul] at this
            omega
          · right
            have : (j + 1) * k ≤ i * k := Nat.mul_le_mul_right k q
            rw [Nat.add_mul, Nat.one_mul] at this
            omega)]
        exact r3 m u hu
      · have hzf : z ∈ fps.flatten := List.mem_flatten.2 ⟨f', List.mem_of_getElem? r1, hz⟩
        refine hW.block z (hlt z (List.mem_cons_of_mem _ hzf)) fun hm => ?_
        rcases List.mem_cons.1 hm with rfl | hm
        · exact hgn.1 hzf
        · rcases Nat.lt_or_gt_of_ne hij with q | q
          · exact (nodup_fl fps hgn.2).2 i j f' f q r1 q1 z hz hm
          · exact (nodup_fl fps hgn.2).2 j i f f' q q1 r1 z hm hz

/-- A list that is marked one by one. -/
def mkL (mk : Int → α → α) (ck : α → Nat) : Int → List α → List α
  | _, [] => []
  | q, x :: r => mk q x :: mkL mk ck (q + (ck x : Nat)) r

theorem sumP_cons' (f : α → Nat) (x : α) (xs : List α) (i : Nat) : sumP f (x :: xs) (i + 1) = f x + sumP f xs i := by simp [sumP]
theorem sumP_zero' (f : α → Nat) (xs : List α) : sumP f xs 0 = 0 := by simp [sumP]

theorem mkL_at (mk : Int → α → α) (ck : α → Nat) : ∀ (xs : List α) (q : Int) (i : Nat), (mkL mk ck q xs)[i]? = (xs[i]?).map (mk (q + (sumP ck xs i : Nat))) := by
  intro xs
  induction xs with
  | nil => intro q i; simp [mkL]
  | cons b r ih =>
    intro q i
    cases i with
    | zero => simp [mkL, sumP_zero']
    | succ i =>
      rw [mkL, List.getElem?_cons_succ, List.getElem?_cons_succ, ih, sumP_cons']
      congr 2
      omega
theorem mkL_len (mk : Int → α → α) (ck : α → Nat) : ∀ (xs : List α) (q : Int), (mkL mk ck q xs).length = xs.length := by
  intro xs
  induction xs with
  | nil => intro q; rfl
  | cons b r ih => intro q; rw [mkL, List.length_cons, List.length_cons, ih]

def mixL (mk : Int → α → α) (ck : α → Nat) (q : Int) (xs : List α) (j : Nat) : List α := (mkL mk ck q xs).take j ++ xs.drop j

theorem mixL_zero (mk : Int → α → α) (ck : α → Nat) (q : Int) (xs : List α) : mixL mk ck q xs 0 = xs := by simp [mixL]
theorem mixL_all (mk : Int → α → α) (ck : α → Nat) (q : Int) (xs : List α) (j : Nat) (h : xs.length ≤ j) : mixL mk ck q xs j = mkL mk ck q xs := by
  unfold mixL
  rw [List.take_of_length_le (by rw [mkL_len]; exact h), List.drop_of_length_le h, List.append_nil]
theorem mixL_len (mk : Int → α → α) (ck : α → Nat) (q : Int) (xs : List α) (j : Nat) : (mixL mk ck q xs j).length = xs.length := by
  unfold mixL
  rw [List.length_append, List.length_take, List.length_drop, mkL_len]
  omega
theorem mixL_at (mk : Int → α → α) (ck : α → Nat) (q : Int) (xs : List α) (j i : Nat) (h : j ≤ i) : (mixL mk ck q xs j)[i]? = xs[i]? := by
  unfold mixL
  rcases Nat.lt_or_ge i xs.length with hi | hi
  · rw [List.getElem?_append_right (by rw [List.length_take, mkL_len]; omega), List.getElem?_drop, List.length_take, mkL_len]
    congr 1
    omega
  · have h1 : ((mkL mk ck q xs).take j ++ xs.drop j).length = xs.length := mixL_len mk ck q xs j
    rw [List.getElem?_eq_none (by rw [h1]; exact hi), List.getElem?_eq_none hi]
theorem mixL_set (mk : Int → α → α) (ck : α → Nat) (q : Int) (xs : List α) (j : Nat) (x : α) (hx : xs[j]? = some x) : (mixL mk ck q xs j).set j (mk (q + (sumP ck xs j : Nat)) x) = mixL mk ck q xs (j + 1) := by
  have hj := (List.getElem?_eq_some_iff.1 hx).1
  apply List.ext_getElem?
  intro i
  by_cases hij : i = j
  · subst hij
    rw [List.getElem?_set_self (by rw [mixL_len]; exact hj)]
    unfold mixL
    rw [List.getElem?_append_left (by rw [List.length_take, mkL_len]; omega), List.getElem?_take, if_pos (by omega), mkL_at, hx]
    rfl
  · rw [List.getElem?_set_ne (fun e => hij e.symm)]
    rcases Nat.lt_or_gt_of_ne hij with h | h
    · unfold mixL
      rw [List.getElem?_append_left (by rw [List.length_take, mkL_len]; omega), List.getElem?_append_left (by rw [List.length_take, mkL_len]; omega), List.getElem?_take, List.getElem?_take, if_pos h, if_pos (by omega)]
    · rw [mixL_at _ _ _ _ _ _ (by omega), mixL_at _ _ _ _ _ _ (by omega)]
end

/-- The contract of the law's marks on a list; of what it reads of them. -/
def MkLs {α : Type} (F k : Nat) (T : TypeId) (O : World → List Value → α → List Nat → Prop) (mk : Int → α → α) (ck : α → Nat) : Prop := ∀ (v : Value) (xs : List α) (fp : List Nat) (q : Int) (w : World), OwnRow k T O w v xs fp → fp.Nodup → (∀ g ∈ fp, g < w.heap.size) → 0 ≤ q → q + ((xs.map ck).sum : Nat) ≤ 1099511627776 → xs.length ≤ 1099511627776 →
  Calls Try.prog F #[v, .int .i64 q] w fun e w' => e = .returned (.int .i64 (q + ((xs.map ck).sum : Nat))) ∧ OwnRow k T O w' v (mkL mk ck q xs) fp ∧ Wrote fp w w'
def HdLs {α : Type} (F k : Nat) (R : World → List Value → α → Prop) (mk : Int → α → α) (ck : α → Nat) : Prop := ∀ (v : Value) (xs : List α) (q : Int) (w : World), RowOf k R w v (mkL mk ck q xs) → 0 ≤ q → q + ((xs.map ck).sum : Nat) ≤ 1099511627776 → xs.length ≤ 1099511627776 →
  Calls Try.prog F #[v, .int .i64 q] w fun e w' => e = .returned (.int .i64 (q + ((xs.map ck).sum : Nat))) ∧ Below w.heap.size w w'

def mkI (q : Int) (n : Int) : Int := q
def ckI (n : Int) : Nat := 1

end Go.Proofs.Ytkfpfijblflcfaa
