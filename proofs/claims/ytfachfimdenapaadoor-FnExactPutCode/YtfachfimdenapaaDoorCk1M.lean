/- Code, as data: when an instruction is right, and how heights go on. -/
import Derived.Test.YtfachfimdenapaaDoorSp9aM
import Derived.Test.YtfachfimdenapaaDoorDtCodeM
import Derived.Test.YtfachfimdenapaaDoorFxM
import Derived.Test.YtfachfimdenapaaDoorIOkM
import Derived.Laws.OwnMore
import Derived.Test.YtfachfimdenapaaDoorNumM
import Derived.Shelf.Abstract
namespace Go.Proofs.YtfachfimdenapaaDoor
open Go.RowKit
set_option linter.unusedVariables false

def fnIx (fs : List DFn) (s : ByteArray) : Int := fidx (fun f => decide (f.Name = s)) fs

def CallP {d : Nat} (c : DCode d) (s : ByteArray) (n : Int) : Prop := ∃ (k : Nat) (f : DFn), fnIx c.Fns s = k ∧ c.Fns[k]? = some f ∧ f.Args = n
def MatP {d : Nat} (c : DCode d) (sl n : Int) : Prop := ∃ (k : Nat) (p : Tm d), n = k ∧ c.Pats[k]? = some p ∧ pPatFits d p sl

/-- An instruction that is right, but for where it leads to. -/
def InsP {d : Nat} (c : DCode d) (sl op n : Int) (s : ByteArray) (tq : Int) : Prop :=
  (op = 1 ∧ s.size = 0 ∧ tq = 0 ∧ 0 ≤ n ∧ n ≤ 1000000000000) ∨ (op = 2 ∧ n = 0 ∧ tq = 0 ∧ (AtomP s ∧ ¬ Wrd s)) ∨ (op = 3 ∧ s.size = 0 ∧ tq = 0 ∧ 0 ≤ n ∧ n < sl) ∨
  (op = 4 ∧ s.size = 0 ∧ tq = 0 ∧ 0 ≤ n ∧ n ≤ 20) ∨ (op = 5 ∧ s.size = 0 ∧ tq = 0 ∧ 0 ≤ n ∧ n ≤ 20) ∨ (op = 6 ∧ s.size = 0 ∧ tq = 0 ∧ 2 ≤ n ∧ n ≤ 6) ∨ (op = 7 ∧ n = 0 ∧ tq = 0 ∧ OpP s) ∨
  (op = 8 ∧ tq = 0 ∧ CallP c s n) ∨ (op = 9 ∧ s.size = 0 ∧ MatP c sl n) ∨ (op = 10 ∧ s.size = 0 ∧ n = 0) ∨ (op = 11 ∧ s.size = 0 ∧ n = 0 ∧ tq = 0) ∨ (op = 12 ∧ s.size = 0 ∧ n = 0 ∧ tq = 0)

theorem insP1 {d : Nat} (c : DCode d) (sl n : Int) (s : ByteArray) (tq : Int) : InsP c sl 1 n s tq ↔ s.size = 0 ∧ tq = 0 ∧ 0 ≤ n ∧ n ≤ 1000000000000 := by simp [InsP]
theorem insP2 {d : Nat} (c : DCode d) (sl n : Int) (s : ByteArray) (tq : Int) : InsP c sl 2 n s tq ↔ n = 0 ∧ tq = 0 ∧ (AtomP s ∧ ¬ Wrd s) := by simp [InsP]
theorem insP3 {d : Nat} (c : DCode d) (sl n : Int) (s : ByteArray) (tq : Int) : InsP c sl 3 n s tq ↔ s.size = 0 ∧ tq = 0 ∧ 0 ≤ n ∧ n < sl := by simp [InsP]
theorem insP4 {d : Nat} (c : DCode d) (sl n : Int) (s : ByteArray) (tq : Int) : InsP c sl 4 n s tq ↔ s.size = 0 ∧ tq = 0 ∧ 0 ≤ n ∧ n ≤ 20 := by simp [InsP]
theorem insP5 {d : Nat} (c : DCode d) (sl n : Int) (s : ByteArray) (tq : Int) : InsP c sl 5 n s tq ↔ s.size = 0 ∧ tq = 0 ∧ 0 ≤ n ∧ n ≤ 20 := by simp [InsP]
theorem insP6 {d : Nat} (c : DCode d) (sl n : Int) (s : ByteArray) (tq : Int) : InsP c sl 6 n s tq ↔ s.size = 0 ∧ tq = 0 ∧ 2 ≤ n ∧ n ≤ 6 := by simp [InsP]
theorem insP7 {d : Nat} (c : DCode d) (sl n : Int) (s : ByteArray) (tq : Int) : InsP c sl 7 n s tq ↔ n = 0 ∧ tq = 0 ∧ OpP s := by simp [InsP]
theorem insP8 {d : Nat} (c : DCode d) (sl n : Int) (s : ByteArray) (tq : Int) : InsP c sl 8 n s tq ↔ tq = 0 ∧ CallP c s n := by simp [InsP]
theorem insP9 {d : Nat} (c : DCode d) (sl n : Int) (s : ByteArray) (tq : Int) : InsP c sl 9 n s tq ↔ s.size = 0 ∧ MatP c sl n := by simp [InsP]
theorem insP10 {d : Nat} (c : DCode d) (sl n : Int) (s : ByteArray) (tq : Int) : InsP c sl 10 n s tq ↔ s.size = 0 ∧ n = 0 := by simp [InsP]
theorem insP11 {d : Nat} (c : DCode d) (sl n : Int) (s : ByteArray) (tq : Int) : InsP c sl 11 n s tq ↔ s.size = 0 ∧ n = 0 ∧ tq = 0 := by simp [InsP]
theorem insP12 {d : Nat} (c : DCode d) (sl n : Int) (s : ByteArray) (tq : Int) : InsP c sl 12 n s tq ↔ s.size = 0 ∧ n = 0 ∧ tq = 0 := by simp [InsP]
theorem InsP.op {d : Nat} {c : DCode d} {sl op n : Int} {s : ByteArray} {tq : Int} (h : InsP c sl op n s tq) : 1 ≤ op ∧ op ≤ 12 := by
  unfold InsP at h
  rcases h with h | h | h | h | h | h | h | h | h | h | h | h <;> (have := h.1; omega)

/-! Heights. -/
def tkD (op n : Int) : Int := if op = 4 ∨ op = 5 ∨ op = 6 ∨ op = 8 then n else if op = 7 then 2 else if op = 9 ∨ op = 12 then 1 else 0
def nxD (h t : Int) : Int := wrap64 (wrap64 (h - t) + 1)
/-- A place is come to at a height. -/
def cmD (hs : List Int) (k : Nat) (h : Int) : Option (List Int) := match hs[k]? with | none => none | some y => if y = -1 then some (hs.set k h) else if y = h then some hs else none
/-- From an instruction to all that it leads to: the model's. -/
def stM (n i : Nat) (x : DIns) (hs : List Int) : Option (List Int) := match hs[i]? with
  | none => none
  | some h => if h < tkD x.Op x.N ∨ 300 < h ∨ (x.Op = 12 ∧ h ≠ 1) then none
    else if x.Op = 11 ∨ x.Op = 12 then some hs
    else if x.Op = 10 then cmD hs x.To.toNat h
    else if x.Op = 9 then (cmD hs x.To.toNat h).bind fun q => if i + 1 < n then cmD q (i + 1) (h - 1) else none
    else if i + 1 < n then cmD hs (i + 1) (nxD h (tkD x.Op x.N)) else none
/-- .. the program's. -/
def stP (n i : Nat) (x : DIns) (hs : List Int) : Option (List Int) := match hs[i]? with
  | none => none
  | some h => if h < tkD x.Op x.N then none
    else if x.Op = 9 then if (i : Int) < x.To ∧ x.To < n ∧ h ≤ 300 then (cmD hs x.To.toNat h).bind fun q => if i + 1 < n ∧ h - 1 ≤ 300 then cmD q (i + 1) (h - 1) else none else none
    else if x.Op = 10 then if (i : Int) < x.To ∧ x.To < n ∧ h ≤ 300 then cmD hs x.To.toNat h else none
    else if x.Op = 11 then some hs
    else if x.Op = 12 then if h = 1 then some hs else none
    else if i + 1 < n ∧ nxD h (tkD x.Op x.N) ≤ 300 then cmD hs (i + 1) (nxD h (tkD x.Op x.N)) else none
def rnM (n : Nat) : Nat → List DIns → List Int → Option (List Int)
  | _, [], hs => some hs
  | i, x :: l, hs => (stM n i x hs).bind (rnM n (i + 1) l)
def rnP (n : Nat) : Nat → List DIns → List Int → Option (List Int)
  | _, [], hs => some hs
  | i, x :: l, hs => (stP n i x hs).bind (rnP n (i + 1) l)
/-- Where the instructions lead to lies behind them, and is there. -/
def ToP (n : Nat) : Nat → List DIns → Prop
  | _, [] => True
  | i, x :: l => (x.Op = 9 ∨ x.Op = 10 → (i : Int) + 1 ≤ x.To ∧ x.To ≤ (n : Int) - 1) ∧ ToP n (i + 1) l

theorem cmD_len {hs q : List Int} {k : Nat} {h : Int} (e : cmD hs k h = some q) : q.length = hs.length := by
  unfold cmD at e
  split at e
  · cases e
  · split at e
    · cases e; simp
    · split at e
      · cases e; rfl
      · cases e
theorem cmD_at {hs q : List Int} {k : Nat} {h : Int} (e : cmD hs k h = some q) : q[k]? = some h := by
  unfold cmD at e
  split at e
  · cases e
  · rename_i y hy
    split at e
    · cases e
      have := (List.getElem?_eq_some_iff.1 hy).1
      simp [this]
    · split at e
      · rename_i h1 h2
        cases e
        rw [hy, h2]
      · cases e
theorem cmD_all {P : Int → Prop} {hs q : List Int} {k : Nat} {h : Int} (e : cmD hs k h = some q) (ha : ∀ y ∈ hs, P y) (hh : P h) : ∀ y ∈ q, P y := by
  unfold cmD at e
  split at e
  · cases e
  · split at e
    · cases e
      intro y hy
      rcases List.mem_or_eq_of_mem_set hy with h1 | h1
      · exact ha y h1
      · rw [h1]; exact hh
    · split at e
      · cases e; exact ha
      · cases e

theorem rn_PM (n : Nat) : ∀ (l : List DIns) (i : Nat) (hs q : List Int), (∀ y ∈ hs, y ≤ 300) → rnP n i l hs = some q → rnM n i l hs = some q ∧ ToP n i l := by
  intro l
  induction l with
  | nil => intro i hs q _ e; exact ⟨e, trivial⟩
  | cons x l ih =>
    intro i hs q ha e
    unfold rnP at e
    obtain ⟨r, hr, er⟩ := Option.bind_eq_some_iff.1 e
    have key : stM n i x hs = some r ∧ (x.Op = 9 ∨ x.Op = 10 → (i : Int) + 1 ≤ x.To ∧ x.To ≤ (n : Int) - 1) ∧ ∀ y ∈ r, y ≤ 300 := by
      unfold stP at hr
      unfold stM
      cases hh : hs[i]? with
      | none => rw [hh] at hr; cases hr
      | some h =>
        rw [hh] at hr
        have h300 := ha h (List.mem_of_getElem? hh)
        simp only at hr ⊢
        by_cases ht : h < tkD x.Op x.N
        · rw [if_pos ht] at hr; cases hr
        rw [if_neg ht] at hr
        by_cases h9 : x.Op = 9
        · rw [if_pos h9] at hr
          split at hr
          · rename_i hc
            obtain ⟨r1, e1, e2⟩ := Option.bind_eq_some_iff.1 hr
            split at e2
            · rename_i hc2
              rw [if_neg (by omega), if_neg (by omega), if_neg (by omega), if_pos h9, e1]
              refine ⟨by simp only [Option.bind_some]; rw [if_pos hc2.1]; exact e2, fun _ => by omega, ?_⟩
              exact cmD_all e2 (cmD_all e1 ha hc.2.2) hc2.2
            · cases e2
          · cases hr
        rw [if_neg h9] at hr
        by_cases h10 : x.Op = 10
        · rw [if_pos h10] at hr
          split at hr
          · rename_i hc
            rw [if_neg (by omega), if_neg (by omega), if_pos h10]
            exact ⟨hr, fun _ => by omega, cmD_all hr ha hc.2.2⟩
          · cases hr
        rw [if_neg h10] at hr
        by_cases h11 : x.Op = 11
        · rw [if_pos h11] at hr
          cases hr
          rw [if_neg (by omega), if_pos (.inl h11)]
          exact ⟨rfl, fun e => by omega, ha⟩
        rw [if_neg h11] at hr
        by_cases h12 : x.Op = 12
        · rw [if_pos h12] at hr
          split at hr
          · cases hr
            rw [if_neg (by omega), if_pos (.inr h12)]
            exact ⟨rfl, fun e => by omega, ha⟩
          · cases hr
        rw [if_neg h12] at hr
        split at hr
        · rename_i hc
          rw [if_neg (by omega), if_neg (by omega), if_neg h10, if_neg h9, if_pos hc.1]
          exact ⟨hr, fun e => by omega, cmD_all hr ha hc.2⟩
        · cases hr
    obtain ⟨k1, k2, k3⟩ := key
    obtain ⟨j1, j2⟩ := ih (i + 1) r q k3 er
    refine ⟨?_, k2, j2⟩
    unfold rnM
    rw [k1]
    exact j1
theorem rnM_low {n : Nat} {l : List DIns} {i : Nat} {hs q : List Int} {h : Int} (hl : l ≠ []) (e : rnM n i l hs = some q) (hh : hs[i]? = some h) : h ≤ 300 := by
  cases l with
  | nil => exact absurd rfl hl
  | cons x l =>
    unfold rnM at e
    obtain ⟨r, hr, er⟩ := Option.bind_eq_some_iff.1 e
    unfold stM at hr
    rw [hh] at hr
    simp only at hr
    split at hr
    · cases hr
    · omega
theorem rn_MP (n : Nat) : ∀ (l : List DIns) (i : Nat) (hs q : List Int), n = i + l.length → rnM n i l hs = some q → ToP n i l → rnP n i l hs = some q := by
  intro l
  induction l with
  | nil => intro i hs q _ e _; exact e
  | cons x l ih =>
    intro i hs q hn e ht
    obtain ⟨t1, t2⟩ := ht
    rw [List.length_cons] at hn
    unfold rnM at e
    obtain ⟨r, hr, er⟩ := Option.bind_eq_some_iff.1 e
    have key : stP n i x hs = some r := by
      unfold stM at hr
      unfold stP
      cases hh : hs[i]? with
      | none => rw [hh] at hr; cases hr
      | some h =>
        rw [hh] at hr
        simp only at hr ⊢
        split at hr
        · cases hr
        rename_i hc
        rw [if_neg (by omega)]
        by_cases h9 : x.Op = 9
        · rw [if_neg (by omega), if_neg (by omega), if_pos h9] at hr
          rw [if_pos h9, if_pos (by omega)]
          obtain ⟨r1, e1, e2⟩ := Option.bind_eq_some_iff.1 hr
          rw [e1]
          simp only [Option.bind_some]
          split at e2
          · rename_i q2
            rw [if_pos (by omega)]
            exact e2
          · cases e2
        rw [if_neg h9]
        by_cases h10 : x.Op = 10
        · rw [if_neg (by omega), if_pos h10] at hr
          rw [if_pos h10, if_pos (by omega)]
          exact hr
        rw [if_neg h10]
        by_cases h11 : x.Op = 11
        · rw [if_pos (.inl h11)] at hr
          rw [if_pos h11]
          exact hr
        rw [if_neg h11]
        by_cases h12 : x.Op = 12
        · rw [if_pos (.inr h12)] at hr
          rw [if_pos h12, if_pos (by omega)]
          exact hr
        rw [if_neg h12]
        rw [if_neg (by omega), if_neg h10, if_neg h9] at hr
        split at hr
        · rename_i hc2
          have h3 := cmD_at hr
          have h4 : nxD h (tkD x.Op x.N) ≤ 300 := rnM_low (by intro e0; rw [e0] at hn; simp at hn; omega) er h3
          rw [if_pos ⟨hc2, h4⟩]
          exact hr
        · cases hr
    unfold rnP
    rw [key]
    exact ih (i + 1) r q (by omega) er t2
theorem rnP_last {n : Nat} : ∀ (l : List DIns) (i : Nat) (hs q : List Int) (x : DIns), n = i + l.length → rnP n i l hs = some q → l.getLast? = some x → x.Op = 12 ∨ x.Op = 11 := by
  intro l
  induction l with
  | nil => intro i hs q x _ _ h; cases h
  | cons y l ih =>
    intro i hs q x hn e h
    rw [List.length_cons] at hn
    unfold rnP at e
    obtain ⟨r, hr, er⟩ := Option.bind_eq_some_iff.1 e
    cases l with
    | nil =>
      simp at h
      subst h
      simp at hn
      unfold stP at hr
      split at hr
      · cases hr
      · split at hr
        · cases hr
        split at hr
        · split at hr
          · obtain ⟨r1, e1, e2⟩ := Option.bind_eq_some_iff.1 hr
            split at e2
            · omega
            · cases e2
          · cases hr
        split at hr
        · split at hr
          · omega
          · cases hr
        split at hr
        · exact .inr (by assumption)
        split at hr
        · exact .inl (by assumption)
        split at hr
        · omega
        · cases hr
    | cons z l => exact ih (i + 1) r q x (by omega) er (by simpa using h)

/-- The heights at the beginning. -/
def hs0 (n : Nat) : List Int := 0 :: List.replicate (n - 1) (-1)
theorem hs0_len {n : Nat} (h : 1 ≤ n) : (hs0 n).length = n := by unfold hs0; simp; omega
theorem hs0_low (n : Nat) : ∀ y ∈ hs0 n, y ≤ 300 := fun y hy => by
  unfold hs0 at hy
  rcases List.mem_cons.1 hy with rfl | h
  · decide
  · rw [(List.mem_replicate.1 h).2]; decide

/-- A function that is right. -/
def FnP {d : Nat} (c : DCode d) (i : Nat) (f : DFn) : Prop :=
  (AtomP f.Name ∧ ¬ Wrd f.Name) ∧ fnIx c.Fns f.Name = i ∧ (0 ≤ f.Args ∧ f.Args ≤ 4) ∧ (f.Args ≤ f.Slots ∧ f.Slots ≤ 400) ∧ (1 ≤ f.Ins.length ∧ f.Ins.length ≤ 1500) ∧
    (∀ x ∈ f.Ins, InsP c f.Slots x.Op x.N x.S x.To) ∧ ∃ q, rnP f.Ins.length 0 f.Ins (hs0 f.Ins.length) = some q
def pCodeOk (d : Nat) (c : DCode d) : Prop := c.Fns.length ≤ 12 ∧ c.Pats.length ≤ 2000 ∧ ∀ (i : Nat) (f : DFn), c.Fns[i]? = some f → FnP c i f

theorem rn_iff (l : List DIns) : (∃ q, rnP l.length 0 l (hs0 l.length) = some q) ↔ ToP l.length 0 l ∧ (∃ q, rnM l.length 0 l (hs0 l.length) = some q) := by
  constructor
  · rintro ⟨q, h⟩
    obtain ⟨h1, h2⟩ := rn_PM l.length l 0 _ q (hs0_low _) h
    exact ⟨h2, q, h1⟩
  · rintro ⟨h2, q, h1⟩
    exact ⟨q, rn_MP l.length l 0 _ q (by omega) h1 h2⟩
theorem ToP_iff (n : Nat) : ∀ (l : List DIns) (i : Nat), ToP n i l ↔ ∀ (j : Nat) (x : DIns), l[j]? = some x → x.Op = 9 ∨ x.Op = 10 → ((i + j : Nat) : Int) + 1 ≤ x.To ∧ x.To ≤ (n : Int) - 1 := by
  intro l
  induction l with
  | nil => intro i; exact ⟨fun _ j x h => by simp at h, fun _ => trivial⟩
  | cons y l ih =>
    intro i
    constructor
    · rintro ⟨h1, h2⟩ j x hx ho
      cases j with
      | zero => simp at hx; subst hx; exact h1 ho
      | succ j =>
        have := (ih (i + 1)).1 h2 j x (by simpa using hx) ho
        rw [show i + 1 + j = i + (j + 1) from by omega] at this
        exact this
    · intro h
      refine ⟨fun ho => h 0 y (by simp) ho, (ih (i + 1)).2 fun j x hx ho => ?_⟩
      have := h (j + 1) x (by simpa using hx) ho
      rw [show i + (j + 1) = i + 1 + j from by omega] at this
      exact this

end Go.Proofs.YtfachfimdenapaaDoor

/- Where a function stands, what an instruction takes, and how a place is come to: the model's. -/
namespace Go.Proofs.YtfachfimdenapaaDoor
open Go.RowKit
set_option linter.unusedVariables false

set_option maxRecDepth 100000 in
set_option maxHeartbeats 2000000 in
theorem l9FnAt_any (v v1 : Value) (m : List DFn) (s : ByteArray) (w : World) (hr : RowOf 4 FnR w v m) (hl1 : m.length ≤ 1048576) :
    Calls Tryd.prog 48 #[.agg #[v, v1], .string s] w fun e w' => e = .returned (.int .i64 (fnIx m s)) ∧ Below w.heap.size w w' := by
  obtain ⟨a, c, e⟩ := hr.slice
  subst e
  have HE : Hid (RowOf 4 FnR w (.slice a m.length c) m) := hr
  obtain ⟨len, hl⟩ : ∃ l, m.length = l := ⟨_, rfl⟩
  have HL : Hid (m.length = len) := hl
  rw [hl] at hl1 HE ⊢
  obtain ⟨W, hW⟩ : ∃ W, W = w.alloc (.cells #[.slice a len c, v1] 32) := ⟨_, rfl⟩
  have hA : Below w.heap.size w W := by rw [hW]; exact (Below.refl _ _).alloc (Nat.le_refl _) _
  have n1 : W.heap[w.heap.size]? = some (.cells #[.slice a len c, v1] 32 (0, 0)) := by rw [hW]; exact heap_alloc_new w _
  have d0 : W.cell? ⟨w.heap.size, 0, none⟩ = some (.slice a len c) := by rw [cell_of_row W _ 0 _ _ _ n1]; rfl
  have HEW : Hid (RowOf 4 FnR W (.slice a len c) m) := HE.out.later FnR.lasts hA
  have HA : Hid (Below w.heap.size w W) := hA
  clear hr hl HE n1 hA
  go_enter Tryd.func48, Tryd.ntmps48
  go_wp2_with fail
  rw [← hW]
  clear hW
  go_loopw [5] (fun i wr => ∃ k : Nat, k ≤ len ∧ i = .int .i64 k ∧ W = wr ∧ Hid (∀ (j : Nat) (g : DFn), j < k → m[j]? = some g → decide (g.Name = s) = false)) (fun i _ => len - (intOf i).toNat)
  case atStart => exact ⟨0, Nat.zero_le _, rfl, rfl, fun j g hj => absurd hj (Nat.not_lt_zero _)⟩
  case round =>
    obtain ⟨k, hk, rfl, rfl, HN⟩ := hrel
    by_cases hkl : k < len
    · obtain ⟨t, ht⟩ : ∃ t, m[k]? = some t := ⟨_, List.getElem?_eq_getElem (by have := HL.out; omega)⟩
      obtain ⟨b, o, a3, c3, rfl, f0, _⟩ := Fn_at HEW.out k t ht
      have hkl' : (k : Int) < (len : Int) := by omega
      have HT : Hid (m[k]? = some t) := ht
      clear ht
      by_cases hs : t.Name = s
      · have hs' : (t.Name.toList == s.toList) = true := by rw [hs]; simp
        have HF : Hid ((k : Int) = fnIx m s) := (fidx_hit HT.out (decide_eq_true hs) HN.out).symm
        clear HN hs
        go_wp2_with fail
        go_ret
        exact ⟨tret1 HF.out, HA.out⟩
      · have hs' : (t.Name.toList == s.toList) = false := by rw [str_beq]; exact decide_eq_false hs
        have HF : Hid (∀ (j : Nat) (g : DFn), j < k + 1 → m[j]? = some g → decide (g.Name = s) = false) := later_step HT.out (decide_eq_false hs) HN.out
        clear HN hs
        go_wp2_with fail
        go_roundw
        case rel => exact ⟨k + 1, by omega, by go_num, trivial, HF⟩
        case measure => simp [intOf]; omega
    · obtain rfl : k = len := by omega
      have hkl' : decide ((k : Int) < (k : Int)) = false := by simp
      have HF : Hid ((-1 : Int) = fnIx m s) := (fidx_none (fun j y hj hy => HN.out j y (by have := HL.out; omega) hy)).symm
      clear HN
      go_wp2_with fail
      go_ret
      exact ⟨tret1 HF.out, HA.out⟩

def lvD (op : Int) : Int := if op = 9 ∨ op = 10 ∨ op = 11 ∨ op = 12 then 0 else 1

theorem ins_ops {op : Int} (h1 : 1 ≤ op) (h2 : op ≤ 12) : op = 1 ∨ op = 2 ∨ op = 3 ∨ op = 4 ∨ op = 5 ∨ op = 6 ∨ op = 7 ∨ op = 8 ∨ op = 9 ∨ op = 10 ∨ op = 11 ∨ op = 12 := by omega

set_option maxRecDepth 100000 in
set_option maxHeartbeats 2000000 in
theorem l9Takes_any (op n : Int) (s : ByteArray) (tq : Int) (w : World) (h1 : 1 ≤ op) (h2 : op ≤ 12) :
    Calls Tryd.prog 64 #[.agg #[.int .i64 op, .int .i64 n, .string s, .int .i64 tq]] w fun e w' => e = .returned (.tuple #[.int .i64 (tkD op n), .int .i64 (lvD op)]) ∧ Below w.heap.size w w' := by
  have hA : Below w.heap.size w (w.alloc (.cells #[.int .i64 op, .int .i64 n, .string s, .int .i64 tq] 48)) := (Below.refl _ _).alloc (Nat.le_refl _) _
  rcases ins_ops h1 h2 with rfl | rfl | rfl | rfl | rfl | rfl | rfl | rfl | rfl | rfl | rfl | rfl
  all_goals
    simp only [tkD, lvD]
    clear h1 h2
    go_enter Tryd.func64, Tryd.ntmps64
    go_wp2_with fail
    go_ret2
    exact ⟨rfl, hA⟩

/-- Heights that lie in a block of their own. -/
def HRow (w : World) (g : Nat) (hs : List Int) : Prop := w.heap[g]? = some (.cells (hs.map (Value.int .i64)).toArray 3 (0, 0))
theorem HRow.cell {w : World} {g : Nat} {hs : List Int} (h : HRow w g hs) {k : Nat} {y : Int} (hy : hs[k]? = some y) : w.cell? ⟨g, k, none⟩ = some (.int .i64 y) := by
  rw [cell_of_row w _ k _ _ _ h]; simp [hy]
theorem HRow.thaw {w : World} {g : Nat} {hs : List Int} (h : HRow w g hs) (k : Nat) : w.frozen? ⟨g, k, none⟩ = false := frozen_of_row w _ _ _ _ h
theorem HRow.set {w : World} {g : Nat} {hs : List Int} (h : HRow w g hs) (k : Nat) (y : Int) : HRow (w.setCell ⟨g, k, none⟩ (.int .i64 y)) g (hs.set k y) := by
  unfold HRow
  rw [heap_setCell_same w g k _ _ _ h]
  congr 2
  rw [List.map_set]
  simp
theorem HRow.kept {w w' : World} {g : Nat} {hs : List Int} (h : HRow w g hs) (hb : w'.heap[g]? = w.heap[g]?) : HRow w' g hs := hb.trans h
theorem HRow.lt {w : World} {g : Nat} {hs : List Int} (h : HRow w g hs) : g < w.heap.size := lt_row h

/-- What a step over heights comes to. -/
def HRes (o : Option (List Int)) (g : Nat) (w : World) (e : Ending) (w' : World) : Prop := ∃ b : Bool, e = .returned (.bool b) ∧ (b = true → ∃ q, o = some q ∧ HRow w' g q) ∧ (b = false → o = none) ∧ Turned g w w'
theorem hres_yes {o : Option (List Int)} {g : Nat} {w w' : World} {q : List Int} (h : o = some q) (h1 : HRow w' g q) (h2 : Turned g w w') : HRes o g w (.returned (.bool true)) w' := ⟨true, rfl, fun _ => ⟨q, h, h1⟩, (fun e => by cases e), h2⟩
theorem hres_no {o : Option (List Int)} {g : Nat} {w w' : World} (h : o = none) (h2 : Turned g w w') : HRes o g w (.returned (.bool false)) w' := ⟨false, rfl, (fun e => by cases e), fun _ => h, h2⟩

set_option maxRecDepth 100000 in
set_option maxHeartbeats 2000000 in
theorem l9Come_any (g : Nat) (hs : List Int) (n c k : Nat) (h y : Int) (w : World) (hR : HRow w g hs) (hn : n = hs.length) (hy : hs[k]? = some y) (hlen : n ≤ 1500) :
    Calls Tryd.prog 65 #[.slice (some ⟨g, 0, none⟩) n c, .int .i64 k, .int .i64 h] w fun e w' => HRes (cmD hs k h) g w e w' := by
  have hkn : k < n := by have := (List.getElem?_eq_some_iff.1 hy).1; omega
  have c0 := hR.cell hy
  have z0 := hR.thaw k
  have hg := hR.lt
  by_cases h1 : y = -1
  · have HO : Hid (cmD hs k h = some (hs.set k h)) := by show _ = _; unfold cmD; rw [hy]; simp only; rw [if_pos h1]
    have HR2 : Hid (HRow (w.setCell ⟨g, k, none⟩ (.int .i64 h)) g (hs.set k h)) := hR.set k h
    have q1 : (y == -1) = true := by simp [h1]
    clear hR hy h1
    go_enter Tryd.func65, Tryd.ntmps65
    go_wp2_with fail
    go_ret
    exact hres_yes HO.out HR2.out (Turned.of_set _ _ _ _)
  · have q1 : (y == -1) = false := by simp [h1]
    by_cases h2 : y = h
    · have HO : Hid (cmD hs k h = some hs) := by show _ = _; unfold cmD; rw [hy]; simp only; rw [if_neg h1, if_pos h2]
      have q2 : (y == h) = true := by simp [h2]
      have HR2 : Hid (HRow w g hs) := hR
      clear hR hy h1 h2
      go_enter Tryd.func65, Tryd.ntmps65
      go_wp2_with fail
      go_ret
      exact hres_yes HO.out HR2.out (Turned.refl _ _)
    · have HO : Hid (cmD hs k h = none) := by show _ = _; unfold cmD; rw [hy]; simp only; rw [if_neg h1, if_neg h2]
      have q2 : (y == h) = false := by simp [h2]
      clear hR hy h1 h2
      go_enter Tryd.func65, Tryd.ntmps65
      go_wp2_with fail
      go_ret
      exact hres_no HO.out (Turned.refl _ _)

end Go.Proofs.YtfachfimdenapaaDoor

/- The heights of a function: the model's. -/
namespace Go.Proofs.YtfachfimdenapaaDoor
open Go.RowKit
set_option linter.unusedVariables false

def GmRes (o : Option (List Int)) (w : World) (e : Ending) (w' : World) : Prop := ∃ (v : Value) (b : Bool), e = .returned (.tuple #[v, .bool b]) ∧ (b = true ↔ ∃ q, o = some q) ∧ (b = true → ∃ (q : List Int) (g c : Nat), o = some q ∧ v = .slice (some ⟨g, 0, none⟩) q.length c ∧ w.heap.size ≤ g ∧ HRow w' g q) ∧ Below w.heap.size w w'
theorem gm_yes {o : Option (List Int)} {w w' : World} {q : List Int} {g n c : Nat} (h : o = some q) (hn : n = q.length) (h1 : HRow w' g q) (hg : w.heap.size ≤ g) (h2 : Below w.heap.size w w') : GmRes o w (.returned (.tuple #[.slice (some ⟨g, 0, none⟩) n c, .bool true])) w' := ⟨_, true, rfl, ⟨fun _ => ⟨q, h⟩, fun _ => rfl⟩, fun _ => ⟨q, g, c, h, by rw [hn], hg, h1⟩, h2⟩
theorem gm_no {o : Option (List Int)} {w w' : World} {v : Value} (h : o = none) (h2 : Below w.heap.size w w') : GmRes o w (.returned (.tuple #[v, .bool false])) w' := ⟨v, false, rfl, ⟨(fun e => by cases e), fun hq => by obtain ⟨q, hq⟩ := hq; rw [h] at hq; cases hq⟩, (fun e => by cases e), h2⟩

theorem Tryd.infoIntM : (Tryd.prog.info? 3).map (fun i => (i.zero, i.size, i.bytes)) = some (some (.int .i64 0), 1, 8) := by kernel_rfl

/-- The first j are set. -/
def fzD (j n : Nat) : List Int := 0 :: (List.replicate (j - 1) (-1) ++ List.replicate (n - j) 0)
theorem fzD_start {n : Nat} (h : 1 ≤ n) : List.replicate n (0 : Int) = fzD 1 n := by
  obtain ⟨k, rfl⟩ : ∃ k, n = k + 1 := ⟨n - 1, by omega⟩
  unfold fzD
  simp [List.replicate_succ]
theorem fzD_step {j n : Nat} (h1 : 1 ≤ j) (h2 : j < n) : (fzD j n).set j (-1) = fzD (j + 1) n := by
  obtain ⟨k, rfl⟩ : ∃ k, j = k + 1 := ⟨j - 1, by omega⟩
  unfold fzD
  rw [List.set_cons_succ, show k + 1 - 1 = k by omega, show k + 1 + 1 - 1 = k + 1 by omega, List.set_append_right _ _ (by simp), List.length_replicate, Nat.sub_self]
  obtain ⟨m, hm⟩ : ∃ m, n - (k + 1) = m + 1 := ⟨n - (k + 1) - 1, by omega⟩
  rw [hm, show n - (k + 1 + 1) = m by omega, List.replicate_succ, List.set_cons_zero, List.replicate_succ' (n := k), List.append_assoc]
  rfl
theorem fzD_end {n : Nat} (h : 1 ≤ n) : fzD n n = hs0 n := by unfold fzD hs0; simp
theorem fzD_len {j n : Nat} (h1 : 1 ≤ j) (h2 : j ≤ n) : (fzD j n).length = n := by unfold fzD; simp; omega

theorem stM_all {n i : Nat} {x : DIns} {hs q : List Int} (h : stM n i x hs = some q) (ha : ∀ y ∈ hs, I64 y) : q.length = hs.length ∧ ∀ y ∈ q, I64 y := by
  have w64 : ∀ z : Int, I64 (wrap64 z) := fun z => by unfold wrap64; constructor <;> omega
  unfold stM at h
  cases hh : hs[i]? with
  | none => rw [hh] at h; cases h
  | some y =>
    rw [hh] at h
    have hy := ha y (List.mem_of_getElem? hh)
    simp only at h
    split at h
    · cases h
    rename_i hlt
    split at h
    · cases h; exact ⟨rfl, ha⟩
    split at h
    · exact ⟨cmD_len h, cmD_all h ha hy⟩
    split at h
    · rename_i h9
      obtain ⟨r, e1, e2⟩ := Option.bind_eq_some_iff.1 h
      split at e2
      · have ht : tkD x.Op x.N = 1 := by rw [h9]; rfl
        refine ⟨(cmD_len e2).trans (cmD_len e1), cmD_all e2 (cmD_all e1 ha hy) ?_⟩
        constructor <;> (have := hy.1; have := hy.2; omega)
      · cases e2
    split at h
    · exact ⟨cmD_len h, cmD_all h ha (w64 _)⟩
    · cases h

set_option maxRecDepth 100000 in
set_option maxHeartbeats 8000000 in
theorem l9Heights_any (l : List DIns) (nm : ByteArray) (ag sl : Int) (a : Option Addr) (len c : Nat) (w : World) (hr : RowOf 4 InsR w (.slice a len c) l) (hl : l.length = len) (h1 : 1 ≤ len) (h2 : len ≤ 1500) (hop : ∀ x ∈ l, 1 ≤ x.Op ∧ x.Op ≤ 12) (hto : ToP len 0 l) :
    Calls Tryd.prog 51 #[.agg #[.string nm, .int .i64 ag, .int .i64 sl, .slice a len c]] w fun e w' => GmRes (rnM len 0 l (hs0 len)) w e w' := by
  obtain ⟨W, hW⟩ : ∃ W, W = w.alloc (.cells #[.string nm, .int .i64 ag, .int .i64 sl, .slice a len c] 45) := ⟨_, rfl⟩
  have hA : Below w.heap.size w W := by rw [hW]; exact (Below.refl _ _).alloc (Nat.le_refl _) _
  have nA : W.heap[w.heap.size]? = some (.cells #[.string nm, .int .i64 ag, .int .i64 sl, .slice a len c] 45 (0, 0)) := by rw [hW]; exact heap_alloc_new w _
  have hWz : W.heap.size = w.heap.size + 1 := by rw [hW]; simp
  have HA : Hid (Below w.heap.size w W ∧ W.heap[w.heap.size]? = some (.cells #[.string nm, .int .i64 ag, .int .i64 sl, .slice a len c] 45 (0, 0))) := ⟨hA, nA⟩
  have HE : Hid (∀ V : World, Below w.heap.size w V → RowOf 4 InsR V (.slice a len c) l) := fun V hV => hr.later InsR.lasts hV
  have HL : Hid (l.length = len) := hl
  have HOP : Hid (∀ x ∈ l, 1 ≤ x.Op ∧ x.Op ≤ 12) := hop
  have HTO : Hid (∀ (j : Nat) (x : DIns), l[j]? = some x → x.Op = 9 ∨ x.Op = 10 → ((0 + j : Nat) : Int) + 1 ≤ x.To ∧ x.To ≤ (len : Int) - 1) := (ToP_iff len l 0).1 hto
  obtain ⟨OO, hOO⟩ : ∃ o, rnM len 0 l (hs0 len) = o := ⟨_, rfl⟩
  have HOO : Hid (rnM len 0 l (hs0 len) = OO) := hOO
  rw [hOO]
  obtain ⟨i0, hi, hz0, hz1, hz2⟩ := info_parts Tryd.infoIntM
  have hcell : W.cell? ⟨w.heap.size, 3, none⟩ = some (.slice a len c) := by rw [cell_of_row W _ 3 _ _ _ nA]; rfl
  clear hr hl hop hto hA hOO nA
  go_enter Tryd.func51, Tryd.ntmps51
  go_wp2_with (at_make; refine wpList_make_full _ rfl _ _ 76 rfl (w.heap.size + 1) 3 i0 (.int .i64 0) 1 Tryd.underlying76 hi hz0 hz1 _ _ _ _ len rfl rfl rfl rfl ?c1 ?c2 ?c3 ?_)
  case c1 => rw [hz2]; omega
  case c2 => unfold maxLen; omega
  case c3 => simp
  intro w1 hown hgrow
  rw [← hW] at hgrow
  rw [toList_madeCells_one] at hown
  have hbel : Below W.heap.size W w1 := (Below.refl _ _).grown hgrow (Nat.le_refl _) (fun _ h => by cases h)
  have hrow : HRow w1 (w.heap.size + 1) (fzD 1 len) := by
    rcases hown.2 with ⟨h', _⟩ | ⟨g', cap', cur, h', _, hg, _, _, hs, ht⟩
    · simp at h'
    · simp only [Value.slice.injEq, Option.some.injEq, Addr.mk.injEq, and_true, true_and] at h'
      obtain ⟨rfl, rfl⟩ := h'
      rw [List.take_of_length_le (by simp; omega)] at ht
      unfold HRow
      rw [hg, show cur = (List.replicate len (Value.int .i64 0)).toArray from by rw [← ht], ← fzD_start h1]
      simp
  obtain ⟨g, hg⟩ : ∃ g, w.heap.size + 1 = g := ⟨_, rfl⟩
  rw [hg] at hrow ⊢
  have hgw : w.heap.size < g := by omega
  have HR1 : Hid (HRow w1 g (fzD 1 len)) := hrow
  have HB1 : Hid (Below W.heap.size W w1) := hbel
  have HGW : Hid (W.heap.size = g) := hWz.trans hg
  clear hown hgrow hrow hbel hg hcell hW hWz hi hz0 hz1 hz2
  go_wp2_with fail
  go_loopw [5] (fun i wr => ∃ j : Nat, 1 ≤ j ∧ j ≤ len ∧ i = .int .i64 j ∧ Hid (HRow wr g (fzD j len)) ∧ Hid (Below W.heap.size W wr)) (fun i _ => len - (intOf i).toNat)
  case atStart => exact ⟨1, by omega, h1, rfl, HR1, HB1⟩
  case round =>
    obtain ⟨j, hj1, hj, rfl, HRj, HBj⟩ := hrel
    by_cases hjl : j < len
    · have hjl' : (j : Int) < (len : Int) := by omega
      obtain ⟨y, hy⟩ : ∃ y, (fzD j len)[j]? = some y := ⟨_, List.getElem?_eq_getElem (by rw [fzD_len hj1 hj]; exact hjl)⟩
      have c0 := HRj.out.cell hy
      have z0 := HRj.out.thaw j
      have HR2 : Hid (HRow (wr.setCell ⟨g, j, none⟩ (.int .i64 (-1))) g (fzD (j + 1) len)) := by
        have := HRj.out.set j (-1)
        rw [fzD_step hj1 hjl] at this
        exact this
      have HB2 : Hid (Below W.heap.size W (wr.setCell ⟨g, j, none⟩ (.int .i64 (-1)))) := HBj.out.trans ((Turned.of_set wr g j _).below (by have := HGW.out; omega) HBj.out.size)
      clear hy HRj HBj
      go_wp2_with fail
      go_roundw
      case rel => exact ⟨j + 1, by omega, by omega, by go_num, HR2, HB2⟩
      case measure => simp [intOf]; omega
    obtain rfl : j = len := by omega
    have hjl' : decide ((j : Int) < (j : Int)) = false := by simp
    have HR3 : Hid (HRow wr g (hs0 j)) := by have := HRj.out; rw [fzD_end h1] at this; exact this
    clear HRj hjl
    go_wp2_with fail
    obtain ⟨X, hX⟩ : ∃ X, X = wr := ⟨_, rfl⟩
    subst hX
    go_loopw [6] (fun i wr => ∃ (k : Nat) (hs : List Int), k ≤ j ∧ i = .int .i64 k ∧ Hid (HRow wr g hs) ∧ Hid (hs.length = j ∧ (∀ y ∈ hs, I64 y) ∧ rnM j k (l.drop k) hs = OO) ∧ Hid (Below W.heap.size W wr)) (fun i _ => j - (intOf i).toNat)
    case atStart => exact ⟨0, hs0 j, Nat.zero_le _, rfl, HR3, ⟨hs0_len h1, fun y hy => by
      unfold hs0 at hy
      rcases List.mem_cons.1 hy with rfl | h
      · constructor <;> omega
      · rw [(List.mem_replicate.1 h).2]; constructor <;> omega, HOO.out⟩, HBj⟩
    case round =>
      obtain ⟨k, hs, hk, rfl, HRk, HIk, HBk⟩ := hrel
      have HBW : Hid (Below w.heap.size w wr) := HA.out.1.trans (HBk.out.mono HA.out.1.size)
      have nA := (HBk.out.block _ (lt_row HA.out.2)).trans HA.out.2
      have hcell : wr.cell? ⟨w.heap.size, 3, none⟩ = some (.slice a j c) := by rw [cell_of_row wr _ 3 _ _ _ nA]; rfl
      have hwl : w.heap.size < wr.heap.size := lt_row nA
      have hgl : g < wr.heap.size := HRk.out.lt
      clear nA
      by_cases hkl : k < j
      case neg =>
        obtain rfl : k = j := by omega
        have hkl' : decide ((k : Int) < (k : Int)) = false := by simp
        have HF : Hid (OO = some hs) := by
          have := HIk.out.2.2
          rw [List.drop_of_length_le (by rw [HL.out]; omega)] at this
          exact this.symm
        have HLQ : Hid (k = hs.length) := HIk.out.1.symm
        clear HIk hkl
        go_wp2_with fail
        go_ret2
        exact gm_yes HF.out HLQ.out HRk.out (by omega) HBW.out
      have hkl' : (k : Int) < (j : Int) := by omega
      obtain ⟨x, hx⟩ : ∃ x, l[k]? = some x := ⟨_, List.getElem?_eq_getElem (by have := HL.out; omega)⟩
      obtain ⟨b, o, rfl, f0, f1, f2, f3⟩ := Ins_at (HE.out wr HBW.out) k x hx
      obtain ⟨h, hh⟩ : ∃ h, hs[k]? = some h := ⟨_, List.getElem?_eq_getElem (by have := HIk.out.1; omega)⟩
      have hd : l.drop k = x :: l.drop (k + 1) := by
        obtain ⟨q1, q2⟩ := List.getElem?_eq_some_iff.1 hx
        rw [List.drop_eq_getElem_cons q1, q2]
      have HST : Hid (OO = (stM j k x hs).bind (rnM j (k + 1) (l.drop (k + 1)))) := by
        have := HIk.out.2.2
        rw [hd] at this
        rw [← this]
        rfl
      have HAL : Hid (∀ q, stM j k x hs = some q → q.length = j ∧ ∀ y ∈ q, I64 y) := fun q hq => by
        have := stM_all hq HIk.out.2.1
        rw [HIk.out.1] at this
        exact this
      have HTX : Hid (x.Op = 9 ∨ x.Op = 10 → (k : Int) + 1 ≤ x.To ∧ x.To ≤ (j : Int) - 1) := by have := HTO.out k x hx; rw [Nat.zero_add] at this; exact this
      have hI := HIk.out.2.1 h (List.mem_of_getElem? hh)
      have HLH : Hid (hs.length = j) := HIk.out.1
      obtain ⟨o1, o2⟩ := HOP.out x (List.mem_of_getElem? hx)
      have hbl : b < wr.heap.size := by have := World.block_lt_of_cell? wr _ f0; simpa using this
      have qh := HRk.out.cell hh
      obtain ⟨op, nn, s, tq⟩ := x
      simp only at f0 f1 f2 f3 o1 o2
      obtain ⟨tk, htk⟩ : ∃ t, tkD op nn = t := ⟨_, rfl⟩
      obtain ⟨lv, hlv⟩ : ∃ t, lvD op = t := ⟨_, rfl⟩
      have HTK : Hid (tkD op nn = tk ∧ lvD op = lv) := ⟨htk, hlv⟩
      have HSM : Hid (stM j k ⟨op, nn, s, tq⟩ hs = if h < tk ∨ 300 < h ∨ (op = 12 ∧ h ≠ 1) then none else if op = 11 ∨ op = 12 then some hs else if op = 10 then cmD hs tq.toNat h else if op = 9 then (cmD hs tq.toNat h).bind fun q => if k + 1 < j then cmD q (k + 1) (h - 1) else none else if k + 1 < j then cmD hs (k + 1) (nxD h tk) else none) := by
        show _ = _
        unfold stM
        rw [hh]
        simp only
        rw [htk]
      have hI1 : -9223372036854775808 ≤ h := hI.1
      have hI2 : h ≤ 9223372036854775807 := hI.2
      obtain ⟨Y, hY⟩ : ∃ Y, wr.alloc (.cells #[.int .i64 op, .int .i64 nn, .string s, .int .i64 tq] 48) = Y := ⟨_, rfl⟩
      have bY : Below wr.heap.size wr Y := by rw [← hY]; exact (Below.refl _ _).alloc (Nat.le_refl _) _
      have nY : Y.heap[wr.heap.size]? = some (.cells #[.int .i64 op, .int .i64 nn, .string s, .int .i64 tq] 48 (0, 0)) := by rw [← hY]; exact heap_alloc_new _ _
      have HYE : Hid (wr.alloc (.cells #[.int .i64 op, .int .i64 nn, .string s, .int .i64 tq] 48) = Y) := hY
      have HYB : Hid (Below wr.heap.size wr Y ∧ Y.heap[wr.heap.size]? = some (.cells #[.int .i64 op, .int .i64 nn, .string s, .int .i64 tq] 48 (0, 0))) := ⟨bY, nY⟩
      have hC := l9Takes_any op nn s tq Y o1 o2
      rw [htk, hlv, ← hY] at hC
      clear hx hh hd HIk htk hlv hI hY bY nY
      go_wp2_with fail
      refine hC.mono ?_
      clear hC
      rintro e V ⟨rfl, hBV⟩
      rw [HYE.out] at hBV
      have bV : Below wr.heap.size wr V := HYB.out.1.trans (hBV.mono HYB.out.1.size)
      have nV := (hBV.block _ (lt_row HYB.out.2)).trans HYB.out.2
      have HRV : Hid (HRow V g hs) := HRk.out.kept (bV.block _ HRk.out.lt)
      have HBV : Hid (Below W.heap.size W V ∧ Below w.heap.size w V) := ⟨HBk.out.trans (bV.mono HBk.out.size), HBW.out.trans (bV.mono HBW.out.size)⟩
      have v0 : V.cell? ⟨wr.heap.size, 0, none⟩ = some (.int .i64 op) := by rw [cell_of_row V _ 0 _ _ _ nV]; rfl
      have v3 : V.cell? ⟨wr.heap.size, 3, none⟩ = some (.int .i64 tq) := by rw [cell_of_row V _ 3 _ _ _ nV]; rfl
      have vh : V.cell? ⟨g, k, none⟩ = some (.int .i64 h) := cell_later bV qh
      have HNX : Hid (∀ (q : List Int), stM j k ⟨op, nn, s, tq⟩ hs = some q → q.length = j ∧ (∀ y ∈ q, I64 y) ∧ rnM j (k + 1) (l.drop (k + 1)) q = OO) := fun q hq => ⟨(HAL.out q hq).1, (HAL.out q hq).2, by rw [HST.out, hq]; rfl⟩
      have HNO : Hid (stM j k ⟨op, nn, s, tq⟩ hs = none → OO = none) := fun hq => by rw [HST.out, hq]; rfl
      have HTG : Hid (∀ Z, Turned g V Z → Below W.heap.size W Z ∧ Below w.heap.size w Z) := fun Z hZ => ⟨HBV.out.1.trans (hZ.below (by have := HGW.out; omega) HBV.out.1.size), HBV.out.2.trans (hZ.below (by omega) HBV.out.2.size)⟩
      have HCM : Hid (∀ (V : World) (hs' : List Int) (k h' y : Int) (hk : 0 ≤ k), HRow V g hs' → hs'.length = j → hs'[k.toNat]? = some y → Calls Tryd.prog 65 #[.slice (some ⟨g, 0, none⟩) j j, .int .i64 k, .int .i64 h'] V fun e w' => HRes (cmD hs' k.toNat h') g V e w') := fun V hs' k h' y hk r1 r2 r3 => by
        obtain ⟨i, rfl⟩ : ∃ i : Nat, k = i := ⟨k.toNat, by omega⟩
        exact l9Come_any g hs' j j i h' y V r1 r2.symm r3 h2
      obtain ⟨SS, hSS⟩ : ∃ S, stM j k ⟨op, nn, s, tq⟩ hs = S := ⟨_, rfl⟩
      rw [hSS] at HSM HNX HNO
      clear bV nV hBV f0 f1 f2 f3 qh hcell HYE HYB HRk HST HAL hbl hSS
      by_cases ha : h < tk
      · have HF : Hid (OO = none) := HNO.out (by rw [HSM.out, if_pos (.inl ha)])
        clear v3
        go_wp2_with fail
        go_ret2
        exact gm_no HF.out HBV.out.2
      have ha' : decide (h < tk) = false := decide_eq_false ha
      by_cases hb : 300 < h
      · have HF : Hid (OO = none) := HNO.out (by rw [HSM.out, if_pos (.inr (.inl hb))])
        clear v3 ha
        go_wp2_with fail
        go_ret2
        exact gm_no HF.out HBV.out.2
      have hb' : decide (300 < h) = false := decide_eq_false hb
      have hh3 : h ≤ 300 := by omega
      clear hb
      have HCO : Hid (¬ (h < tk)) := ha
      clear ha
      rcases ins_ops o1 o2 with rfl | rfl | rfl | rfl | rfl | rfl | rfl | rfl | rfl | rfl | rfl | rfl
      case inr.inr.inr.inr.inr.inr.inr.inr.inr.inr.inr =>
        by_cases hh1 : h = 1
        case neg =>
          have HF : Hid (OO = none) := HNO.out (by rw [HSM.out, if_pos (.inr (.inr ⟨rfl, hh1⟩))])
          have hh1' : (h != 1) = true := by simpa using hh1
          clear v3 hh1
          go_wp2_with fail
          go_ret2
          exact gm_no HF.out HBV.out.2
        have hq : SS = some hs := by rw [HSM.out, if_neg (by have := HCO.out; omega), if_pos (.inr rfl)]
        have HIQ : Hid (hs.length = j ∧ (∀ y ∈ hs, I64 y) ∧ rnM j (k + 1) (l.drop (k + 1)) hs = OO) := HNX.out hs hq
        have HB5 : Hid (Below W.heap.size W V) := HBV.out.1
        have hh1' : (h != 1) = false := by simpa using hh1
        clear v3 hh1 hq
        go_wp2_with fail
        go_roundw
        case rel => exact ⟨k + 1, hs, by omega, by go_num, HRV, HIQ, HB5⟩
        case measure => simp [intOf]; omega
      case inr.inr.inr.inr.inr.inr.inr.inr.inr.inr.inl =>
        have hq : SS = some hs := by rw [HSM.out, if_neg (by have := HCO.out; omega), if_pos (.inl rfl)]
        have HIQ : Hid (hs.length = j ∧ (∀ y ∈ hs, I64 y) ∧ rnM j (k + 1) (l.drop (k + 1)) hs = OO) := HNX.out hs hq
        have HB5 : Hid (Below W.heap.size W V) := HBV.out.1
        clear v3 hq
        go_wp2_with fail
        go_roundw
        case rel => exact ⟨k + 1, hs, by omega, by go_num, HRV, HIQ, HB5⟩
        case measure => simp [intOf]; omega
      case inr.inr.inr.inr.inr.inr.inr.inr.inr.inl =>
        obtain ⟨t1, t2⟩ := HTX.out (.inr rfl)
        have HSE : Hid (SS = cmD hs tq.toNat h) := by rw [HSM.out, if_neg (by have := HCO.out; omega), if_neg (by omega), if_pos rfl]; rfl
        obtain ⟨y, hy⟩ : ∃ y, hs[tq.toNat]? = some y := ⟨_, List.getElem?_eq_getElem (by have := HLH.out; omega)⟩
        have hC := HCM.out V hs tq h y (by omega) HRV.out HLH.out hy
        clear hy
        go_wp2_with fail
        refine hC.mono ?_
        clear hC
        rintro e V2 ⟨b', rfl, y1, y2, y3⟩
        have HB5 : Hid (Below W.heap.size W V2 ∧ Below w.heap.size w V2) := HTG.out V2 y3
        cases b' with
        | false =>
          have HF : Hid (OO = none) := HNO.out (by rw [HSE.out]; exact y2 rfl)
          clear y1 y2 y3 v0 v3 vh
          go_wp2_with fail
          go_ret2
          exact gm_no HF.out HB5.out.2
        | true =>
          obtain ⟨q, e1, e2⟩ := y1 rfl
          have HIQ : Hid (q.length = j ∧ (∀ y ∈ q, I64 y) ∧ rnM j (k + 1) (l.drop (k + 1)) q = OO) := HNX.out q (by rw [HSE.out]; exact e1)
          have HRQ : Hid (HRow V2 g q) := e2
          have HB6 : Hid (Below W.heap.size W V2) := HB5.out.1
          clear y1 y2 y3 v0 v3 vh e1 e2
          go_wp2_with fail
          go_roundw
          case rel => exact ⟨k + 1, q, by omega, by go_num, HRQ, HIQ, HB6⟩
          case measure => simp [intOf]; omega
      case inr.inr.inr.inr.inr.inr.inr.inr.inl =>
        obtain ⟨t1, t2⟩ := HTX.out (.inl rfl)
        obtain rfl : tk = 1 := by rw [← HTK.out.1]; rfl
        have hh1 : 1 ≤ h := by have := HCO.out; omega
        have HSE : Hid (SS = (cmD hs tq.toNat h).bind fun q => if k + 1 < j then cmD q (k + 1) (h - 1) else none) := by rw [HSM.out, if_neg (by omega), if_neg (by omega), if_neg (by omega), if_pos rfl]; rfl
        obtain ⟨y, hy⟩ : ∃ y, hs[tq.toNat]? = some y := ⟨_, List.getElem?_eq_getElem (by have := HLH.out; omega)⟩
        have hC := HCM.out V hs tq h y (by omega) HRV.out HLH.out hy
        clear hy
        go_wp2_with fail
        refine hC.mono ?_
        clear hC
        rintro e V2 ⟨b', rfl, y1, y2, y3⟩
        have HT2 : Hid (Turned g V V2) := y3
        have HB5 : Hid (Below W.heap.size W V2 ∧ Below w.heap.size w V2) := HTG.out V2 y3
        cases b' with
        | false =>
          have HF : Hid (OO = none) := HNO.out (by rw [HSE.out, y2 rfl]; rfl)
          clear y1 y2 y3 v0 v3 vh
          go_wp2_with fail
          go_ret2
          exact gm_no HF.out HB5.out.2
        | true =>
          obtain ⟨q, e1, e2⟩ := y1 rfl
          by_cases hkj : k + 1 < j
          case neg =>
            have HF : Hid (OO = none) := HNO.out (by rw [HSE.out, e1]; simp only [Option.bind_some]; rw [if_neg hkj])
            have hkj' : decide ((k : Int) + 1 < (j : Int)) = false := by simp; omega
            clear y1 y2 y3 v0 v3 vh e1 e2 hkj
            go_wp2_with fail
            go_ret2
            exact gm_no HF.out HB5.out.2
          have hkj' : (k : Int) + 1 < (j : Int) := by omega
          have HSF : Hid (SS = cmD q (k + 1) (h - 1)) := by rw [HSE.out, e1]; simp only [Option.bind_some]; rw [if_pos hkj]; rfl
          have hql : q.length = j := (cmD_len e1).trans HLH.out
          obtain ⟨y', hy'⟩ : ∃ y, q[((k : Int) + 1).toNat]? = some y := ⟨_, List.getElem?_eq_getElem (by omega)⟩
          have hC := HCM.out V2 q ((k : Int) + 1) (h - 1) y' (by omega) e2 hql hy'
          rw [show ((k : Int) + 1).toNat = k + 1 from by omega] at hC
          clear y1 y2 y3 v0 v3 vh e1 e2 hkj hql hy'
          go_wp2_with fail
          (with_reducible refine hC.mono ?_)
          clear hC
          rintro e V3 ⟨b', rfl, y1, y2, y3⟩
          have HB6 : Hid (Below W.heap.size W V3 ∧ Below w.heap.size w V3) := HTG.out V3 (HT2.out.trans y3)
          cases b' with
          | false =>
            have HF : Hid (OO = none) := HNO.out (by rw [HSF.out]; exact y2 rfl)
            clear y1 y2 y3
            go_wp2_with fail
            go_ret2
            exact gm_no HF.out HB6.out.2
          | true =>
            obtain ⟨q', e1, e2⟩ := y1 rfl
            have HIQ : Hid (q'.length = j ∧ (∀ y ∈ q', I64 y) ∧ rnM j (k + 1) (l.drop (k + 1)) q' = OO) := HNX.out q' (by rw [HSF.out]; exact e1)
            have HRQ : Hid (HRow V3 g q') := e2
            have HB7 : Hid (Below W.heap.size W V3) := HB6.out.1
            clear y1 y2 y3 e1 e2
            go_wp2_with fail
            go_roundw
            case rel => exact ⟨k + 1, q', by omega, by go_num, HRQ, HIQ, HB7⟩
            case measure => simp [intOf]; omega
      all_goals
        obtain rfl : lv = 1 := by rw [← HTK.out.2]; rfl
        have HSE : Hid (SS = if k + 1 < j then cmD hs (k + 1) (nxD h tk) else none) := by rw [HSM.out, if_neg (by have := HCO.out; omega), if_neg (by omega), if_neg (by omega), if_neg (by omega)]; rfl
        by_cases hkj : k + 1 < j
        case neg =>
          have HF : Hid (OO = none) := HNO.out (by rw [HSE.out, if_neg hkj])
          have hkj' : decide ((k : Int) + 1 < (j : Int)) = false := by simp; omega
          clear v3 hkj
          go_wp2_with fail
          go_ret2
          exact gm_no HF.out HBV.out.2
        have hkj' : (k : Int) + 1 < (j : Int) := by omega
        rw [if_pos hkj] at HSE
        obtain ⟨y', hy'⟩ : ∃ y, hs[((k : Int) + 1).toNat]? = some y := ⟨_, List.getElem?_eq_getElem (by have := HLH.out; omega)⟩
        have hC := HCM.out V hs ((k : Int) + 1) (nxD h tk) y' (by omega) HRV.out HLH.out hy'
        rw [show ((k : Int) + 1).toNat = k + 1 from by omega] at hC
        unfold nxD at hC
        clear v3 hkj hy'
        go_wp2_with fail
        (with_reducible refine hC.mono ?_)
        clear hC
        rintro e V3 ⟨b', rfl, y1, y2, y3⟩
        have HB6 : Hid (Below W.heap.size W V3 ∧ Below w.heap.size w V3) := HTG.out V3 y3
        cases b' with
        | false =>
          have HF : Hid (OO = none) := HNO.out (by rw [HSE.out]; exact y2 rfl)
          clear y1 y2 y3 v0 vh
          go_wp2_with fail
          go_ret2
          exact gm_no HF.out HB6.out.2
        | true =>
          obtain ⟨q', e1, e2⟩ := y1 rfl
          have HIQ : Hid (q'.length = j ∧ (∀ y ∈ q', I64 y) ∧ rnM j (k + 1) (l.drop (k + 1)) q' = OO) := HNX.out q' (by rw [HSE.out]; exact e1)
          have HRQ : Hid (HRow V3 g q') := e2
          have HB7 : Hid (Below W.heap.size W V3) := HB6.out.1
          clear y1 y2 y3 e1 e2 v0 vh
          go_wp2_with fail
          go_roundw
          case rel => exact ⟨k + 1, q', by omega, by go_num, HRQ, HIQ, HB7⟩
          case measure => simp [intOf]; omega

end Go.Proofs.YtfachfimdenapaaDoor

/- Where a function stands, what an instruction takes, and how a place is come to: the program's. -/
namespace Go.Proofs.YtfachfimdenapaaDoor
open Go.RowKit
set_option linter.unusedVariables false

set_option maxRecDepth 100000 in
set_option maxHeartbeats 2000000 in
theorem takenBy_any (op n : Int) (s : ByteArray) (tq : Int) (w : World) (h1 : 1 ≤ op) (h2 : op ≤ 12) :
    Calls Tryd.prog 85 #[.agg #[.int .i64 op, .int .i64 n, .string s, .int .i64 tq]] w fun e w' => e = .returned (.int .i64 (tkD op n)) ∧ Below w.heap.size w w' := by
  have hA : Below w.heap.size w (w.alloc (.cells #[.int .i64 op, .int .i64 n, .string s, .int .i64 tq] 48)) := (Below.refl _ _).alloc (Nat.le_refl _) _
  rcases ins_ops h1 h2 with rfl | rfl | rfl | rfl | rfl | rfl | rfl | rfl | rfl | rfl | rfl | rfl
  all_goals
    simp only [tkD]
    clear h1 h2
    go_enter Tryd.func85, Tryd.ntmps85
    go_wp2_with fail
    go_ret
    exact ⟨rfl, hA⟩

def cmP (n : Nat) (hs : List Int) (k h : Int) : Option (List Int) := if k < n ∧ h ≤ 300 then cmD hs k.toNat h else none

set_option maxRecDepth 100000 in
set_option maxHeartbeats 2000000 in
theorem come_any (g : Nat) (hs : List Int) (n c : Nat) (k h : Int) (w : World) (hR : HRow w g hs) (hn : n = hs.length) (hk : 0 ≤ k) (hlen : n ≤ 1500) :
    Calls Tryd.prog 86 #[.slice (some ⟨g, 0, none⟩) n c, .int .i64 k, .int .i64 h] w fun e w' => HRes (cmP n hs k h) g w e w' := by
  have hg := hR.lt
  by_cases hk1 : (n : Int) ≤ k
  · have HO : Hid (cmP n hs k h = none) := by show _ = _; unfold cmP; rw [if_neg (by omega)]
    clear hR hn
    go_enter Tryd.func86, Tryd.ntmps86
    go_wp2_with fail
    go_ret
    exact hres_no HO.out (Turned.refl _ _)
  by_cases hh : 300 < h
  · have HO : Hid (cmP n hs k h = none) := by show _ = _; unfold cmP; rw [if_neg (by omega)]
    clear hR hn
    go_enter Tryd.func86, Tryd.ntmps86
    go_wp2_with fail
    go_ret
    exact hres_no HO.out (Turned.refl _ _)
  obtain ⟨i, rfl⟩ : ∃ i : Nat, k = i := ⟨k.toNat, by omega⟩
  have hkn : i < n := by omega
  obtain ⟨y, hy⟩ : ∃ y, hs[i]? = some y := ⟨_, List.getElem?_eq_getElem (by omega)⟩
  have he : cmP n hs i h = cmD hs i h := by unfold cmP; rw [if_pos (by omega)]; simp
  rw [he]
  have c0 := hR.cell hy
  have z0 := hR.thaw i
  clear he hk hn
  by_cases h1 : y = -1
  · have HO : Hid (cmD hs i h = some (hs.set i h)) := by show _ = _; unfold cmD; rw [hy]; simp only; rw [if_pos h1]
    have HR2 : Hid (HRow (w.setCell ⟨g, i, none⟩ (.int .i64 h)) g (hs.set i h)) := hR.set i h
    have q1 : (y == -1) = true := by simp [h1]
    clear hR hy h1
    go_enter Tryd.func86, Tryd.ntmps86
    go_wp2_with fail
    go_ret
    exact hres_yes HO.out HR2.out (Turned.of_set _ _ _ _)
  · have q1 : (y == -1) = false := by simp [h1]
    by_cases h2 : y = h
    · have HO : Hid (cmD hs i h = some hs) := by show _ = _; unfold cmD; rw [hy]; simp only; rw [if_neg h1, if_pos h2]
      have q2 : (y == h) = true := by simp [h2]
      have HR2 : Hid (HRow w g hs) := hR
      clear hR hy h1 h2
      go_enter Tryd.func86, Tryd.ntmps86
      go_wp2_with fail
      go_ret
      exact hres_yes HO.out HR2.out (Turned.refl _ _)
    · have HO : Hid (cmD hs i h = none) := by show _ = _; unfold cmD; rw [hy]; simp only; rw [if_neg h1, if_neg h2]
      have q2 : (y == h) = false := by simp [h2]
      clear hR hy h1 h2
      go_enter Tryd.func86, Tryd.ntmps86
      go_wp2_with fail
      go_ret
      exact hres_no HO.out (Turned.refl _ _)

set_option maxRecDepth 100000 in
set_option maxHeartbeats 2000000 in
/-- The closure of fnAt: whether a function has the name that lies at q. -/
theorem fnAt1_any (nm : ByteArray) (a1 a2 : Int) (v : Value) (q : Nat) (s : ByteArray) (w : World) (hq : w.cell? ⟨q, 0, none⟩ = some (.string s)) (hql : q < w.heap.size) :
    Calls Tryd.prog 69 #[.agg #[.string nm, .int .i64 a1, .int .i64 a2, v], .pointer (some ⟨q, 0, none⟩)] w fun e w' => e = .returned (.bool (decide (nm = s))) ∧ Below w.heap.size w w' := by
  have hA : Below w.heap.size w (w.alloc (.cells #[.string nm, .int .i64 a1, .int .i64 a2, v] 45)) := (Below.refl _ _).alloc (Nat.le_refl _) _
  have HS : Hid ((nm.toList == s.toList) = decide (nm = s)) := str_beq nm s
  go_enter Tryd.func69, Tryd.ntmps69
  go_wp2_with fail
  go_ret
  exact ⟨tretb HS.out, hA⟩

end Go.Proofs.YtfachfimdenapaaDoor

/- Where a function stands: the program's. -/
namespace Go.Proofs.YtfachfimdenapaaDoor
open Go.RowKit
set_option linter.unusedVariables false

theorem enters_fnAt1 : ∀ args w, (callFunc 69 args).run Tryd.prog w = .ok (.enter 69 args) w := enters_of Tryd.func69 (by kernel_rfl) rfl

set_option maxRecDepth 100000 in
set_option maxHeartbeats 2000000 in
theorem indexFn_any (a : Option Addr) (len c : Nat) (m : List DFn) (q : Nat) (s : ByteArray) (w : World) (hr : RowOf 4 FnR w (.slice a len c) m) (hl : m.length = len) (hl1 : len ≤ 1048576) (hq : w.cell? ⟨q, 0, none⟩ = some (.string s)) (hql : q < w.heap.size) :
    Calls Tryd.prog 68 #[.slice a len c, .func (.func 69) #[] #[.pointer (some ⟨q, 0, none⟩)]] w fun e w' => e = .returned (.int .i64 (fnIx m s)) ∧ Below w.heap.size w w' := by
  have HE : Hid (RowOf 4 FnR w (.slice a len c) m) := hr
  have HL : Hid (m.length = len) := hl
  have eg := enters_fnAt1
  have HQ : Hid (∀ V : World, Below w.heap.size w V → V.cell? ⟨q, 0, none⟩ = some (.string s) ∧ q < V.heap.size) := fun V hV => ⟨cell_later hV hq, Nat.lt_of_lt_of_le hql hV.size⟩
  clear hr hl hq hql
  go_enter Tryd.func68, Tryd.ntmps68
  go_wp2_with fail
  go_loopw [5, 8] (fun _ i wr => ∃ k : Nat, k ≤ len ∧ i = .int .i64 k ∧ Hid (Below w.heap.size w wr) ∧ Hid (∀ (j : Nat) (g : DFn), j < k → m[j]? = some g → decide (g.Name = s) = false)) (fun _ i _ => len - (intOf i).toNat)
  case atStart => exact ⟨0, Nat.zero_le _, rfl, Below.refl _ _, fun j g hj => absurd hj (Nat.not_lt_zero _)⟩
  case round =>
    obtain ⟨k, hk, rfl, HB, HN⟩ := hrel
    by_cases hkl : k < len
    · obtain ⟨t, ht⟩ : ∃ t, m[k]? = some t := ⟨_, List.getElem?_eq_getElem (by have := HL.out; omega)⟩
      obtain ⟨b, o, a3, c3, rfl, f0, f1, f2, f3, _⟩ := Fn_at (HE.out.later FnR.lasts HB.out) k t ht
      have hkl' : (k : Int) < (len : Int) := by omega
      have HT : Hid (m[k]? = some t) := ht
      have hC := fnAt1_any t.Name t.Args t.Slots (.slice a3 t.Ins.length c3) q s wr (HQ.out wr HB.out).1 (HQ.out wr HB.out).2
      clear ht
      by_cases hs : t.Name = s
      · rw [decide_eq_true hs] at hC
        have HF : Hid ((k : Int) = fnIx m s) := (fidx_hit HT.out (decide_eq_true hs) HN.out).symm
        clear HN hs
        go_wp2_with (go_at_fn 69; refine hC.mono ?_; rintro e w' ⟨rfl, hb'⟩; have HB2 : Hid (Below w.heap.size w w') := HB.out.trans (hb'.mono HB.out.size))
        go_ret
        exact ⟨tret1 HF.out, by assumption⟩
      · rw [decide_eq_false hs] at hC
        have HF : Hid (∀ (j : Nat) (g : DFn), j < k + 1 → m[j]? = some g → decide (g.Name = s) = false) := later_step HT.out (decide_eq_false hs) HN.out
        clear HN hs
        go_wp2_with (go_at_fn 69; refine hC.mono ?_; rintro e w' ⟨rfl, hb'⟩; have HB2 : Hid (Below w.heap.size w w') := HB.out.trans (hb'.mono HB.out.size))
        go_roundw
        case rel => exact ⟨k + 1, by omega, by go_num, by assumption, HF⟩
        case measure => simp [intOf]; omega
    · obtain rfl : k = len := by omega
      have hkl' : decide ((k : Int) < (k : Int)) = false := by simp
      have HF : Hid ((-1 : Int) = fnIx m s) := (fidx_none (fun j y hj hy => HN.out j y (by have := HL.out; omega) hy)).symm
      clear HN
      go_wp2_with fail
      go_ret
      exact ⟨tret1 HF.out, HB.out⟩

set_option maxRecDepth 100000 in
set_option maxHeartbeats 2000000 in
theorem fnAt_any (v v1 : Value) (m : List DFn) (s : ByteArray) (w : World) (hr : RowOf 4 FnR w v m) (hl1 : m.length ≤ 1048576) :
    Calls Tryd.prog 55 #[.agg #[v, v1], .string s] w fun e w' => e = .returned (.int .i64 (fnIx m s)) ∧ Below w.heap.size w w' := by
  obtain ⟨a, c, e⟩ := hr.slice
  subst e
  obtain ⟨W, hW⟩ : ∃ W, W = (w.alloc (.cells #[.slice a m.length c, v1] 32)).alloc (.cells #[.string s] 9) := ⟨_, rfl⟩
  have hA : Below w.heap.size w W := by rw [hW]; exact ((Below.refl _ _).alloc (Nat.le_refl _) _).alloc (by simp) _
  have hq : W.heap[w.heap.size + 1]? = some (.cells #[.string s] 9 (0, 0)) := by
    rw [hW, show w.heap.size + 1 = (w.alloc (.cells #[.slice a m.length c, v1] 32)).heap.size from by simp]; exact heap_alloc_new _ _
  have hC := indexFn_any a m.length c m (w.heap.size + 1) s W (hr.later FnR.lasts hA) rfl hl1 (by rw [cell_of_row W _ 0 _ _ _ hq]; rfl) (lt_row hq)
  have hmf : ∀ (fn : Fn) (first cap : Array Value) (w : World), (Instr.makeFunc fn first cap).run Tryd.prog w = .ok (.func fn first cap) w := fun _ _ _ _ => rfl
  rw [hW] at hC
  have HA : Hid (Below w.heap.size w W) := hA
  have HW : Hid (W = _) := hW
  clear hr hq hA hW
  go_enter Tryd.func55, Tryd.ntmps55
  go_wp2_with fail
  refine hC.mono ?_
  clear hC
  rintro e w' ⟨rfl, hb⟩
  rw [← HW.out] at hb
  have HB : Hid (Below w.heap.size w w') := HA.out.trans (hb.mono HA.out.size)
  clear hb HA HW
  go_wp2_with fail
  go_ret
  exact ⟨rfl, HB.out⟩

end Go.Proofs.YtfachfimdenapaaDoor
