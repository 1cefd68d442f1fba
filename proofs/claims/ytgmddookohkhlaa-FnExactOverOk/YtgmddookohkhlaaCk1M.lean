/- Code, as data: when an instruction is right, and how heights go on. -/
import Derived.Test.YtgmddookohkhlaaSp9aM
import Derived.Test.YtgmddookohkhlaaDtFnM
import Derived.Test.YtgmddookohkhlaaFxM
namespace Go.Proofs.Ytgmddookohkhlaa
open Go.RowKit
set_option linter.unusedVariables false

def fnIx (fs : List DFn) (s : ByteArray) : Int := fidx (fun f => decide (f.Name = s)) fs

def CallP {d : Nat} (c : DCode d) (s : ByteArray) (n : Int) : Prop := ∃ (k : Nat) (f : DFn), fnIx c.Fns s = k ∧ c.Fns[k]? = some f ∧ f.Args = n
def MatP {d : Nat} (c : DCode d) (sl n : Int) : Prop := ∃ (k : Nat) (p : Tm d), n = k ∧ c.Pats[k]? = some p ∧ pPatFits d p sl

/-- An instruction that is right, but for where it leads to. -/
def InsP {d : Nat} (c : DCode d) (sl op n : Int) (s : ByteArray) (tq : Int) : Prop :=
  (op = 1 ∧ s.size = 0 ∧ tq = 0 ∧ 0 ≤ n ∧ n ≤ 1000000000000) ∨ (op = 2 ∧ n = 0 ∧ tq = 0 ∧ (AtomP s ∧ ¬ Wrd s)) ∨ (op = 3 ∧ s.size = 0 ∧ tq = 0 ∧ 0 ≤ n ∧ n < sl) ∨
  (op = 4 ∧ s.size = 0 ∧ tq = 0 ∧ 0 ≤ n ∧ n ≤ 20) ∨ (op = 5 ∧ s.size = 0 ∧ tq = 0 ∧ 0 ≤ n ∧ n ≤ 20) ∨ (op = 6 ∧ s.size = 0 ∧ tq = 0 ∧ 2 ≤ n ∧ n ≤ 6) ∨ (op = 7 ∧ n = 0 ∧ tq = 0 ∧ OpP s) ∨
  (op = 8 ∧ tq = 0 ∧ CallP c s n) ∨ (op = 9 ∧ s.size = 0 ∧ MatP c sl n) ∨ (op = 10 ∧ s.size = 0 ∧ n = 0) ∨ (op = 11 ∧ s.size = 0 ∧ n = 0 ∧ tq = 0) ∨ (op = 12 ∧ s.size = 0 ∧ n = 0 ∧ tq = 0)

theorem insP1 {d : Nat} (c : DCode d) (sl n : Int) (s : ByteArray) (tq : Int) : InsP c sl 1 n s tq ↔ s.size = 0 ∧ tq = 0 ∧ 0 ≤ n ∧ n ≤ 1000000000000 := by simp [InsP]
theorem insP2 {d : Nat} (c : DCode d) (sl n : Int) (s : ByteArray) (tq : Int) : InsP c sl 2 n s tq ↔ n = 0 ∧ tq = 0 ∧ (AtomP s ∧ ¬ Wrd s) := by simp [InsP]
theorem insP3 {d : Nat} (c : DCode d) (sl n : Int) (s : ByteArray) (tq : Int) : InsP c sl 3 n s tq ↔ s.size = 0 ∧ tq = 0 ∧ 0 ≤ n ∧ n < sl := by simp [InsP]
theorem insP4 {d : Nat} (c : DCode d) (sl n : Int) (s : ByteArray) (tq : Int) : InsP c sl 4 n s tq ↔ s.size = 0 ∧ tq = 0 ∧ 0 ≤ n ∧ n ≤ 20 := by simp [InsP]
theorem insP5 {d : Nat} (c : DCode d) (sl n : Int) (s : ByteArray) (tq : Int) : InsP c sl 5 n s tq ↔ s.size = 0 ∧ tq = 0 ∧ 0 ≤ n ∧ n ≤ 20 := by simp [InsP]
theorem insP6 {d : Nat} (c : DCode d) (sl n : Int) (s : ByteArray) (tq : Int) : InsP c sl 6 n s tq ↔ s.size = 0 ∧ tq = 0 ∧ 2 ≤ n ∧ n ≤ 6 := by simp [InsP]
theorem insP7 {d : Nat} (c : DCode d) (sl n : Int) (s : ByteArray) (tq : Int) : InsP c sl 7 n s tq ↔ n = 0 ∧ tq = 0 ∧ OpP s := by simp [InsP]
theorem insP8 {d : Nat} (c : DCode d) (sl n : Int) (s : ByteArray) (tq : Int) : InsP c sl 8 n s tq ↔ tq = 0 ∧ CallP c s n := by simp [InsP]
theorem insP9 {d : Nat} (c : DCode d) (sl n : Int) (s : ByteArray) (tq : Int) : InsP c sl 9 n s tq ↔ s.size = 0 ∧ MatP c sl n := by simp [InsP]
theorem insP10 {d : Nat} (c : DCode d) (sl n : Int) (s : ByteArray) (tq : Int) : InsP c sl 10 n s tq ↔ s.size = 0 ∧ n = 0 := by simp [InsP]
theorem insP11 {d : Nat} (c : DCode d) (sl n : Int) (s : ByteArray) (tq : Int) : InsP c sl 11 n s tq ↔ s.size = 0 ∧ n = 0 ∧ tq = 0 := by simp [InsP]
theorem insP12 {d : Nat} (c : DCode d) (sl n : Int) (s : ByteArray) (tq : Int) : InsP c sl 12 n s tq ↔ s.size = 0 ∧ n = 0 ∧ tq = 0 := by simp [InsP]
theorem InsP.op {d : Nat} {c : DCode d} {sl op n : Int} {s : ByteArray} {tq : Int} (h : InsP c sl op n s tq) : 1 ≤ op ∧ op ≤ 12 := by
  unfold InsP at h
  rcases h with h | h | h | h | h | h | h | h | h | h | h | h <;> (have := h.1; omega)

/-! Heights. -/
def tkD (op n : Int) : Int := if op = 4 ∨ op = 5 ∨ op = 6 ∨ op = 8 then n else if op = 7 then 2 else if op = 9 ∨ op = 12 then 1 else 0
def nxD (h t : Int) : Int := wrap64 (wrap64 (h - t) + 1)
/-- A place is come to at a height. -/
def cmD (hs : List Int) (k : Nat) (h : Int) : Option (List Int) := match hs[k]? with | none => none | some y => if y = -1 then some (hs.set k h) else if y = h then some hs else none
/-- From an instruction to all that it leads to: the model's. -/
def stM (n i : Nat) (x : DIns) (hs : List Int) : Option (List Int) := match hs[i]? with
  | none => none
  | some h => if h < tkD x.Op x.N ∨ 300 < h ∨ (x.Op = 12 ∧ h ≠ 1) then none
    else if x.Op = 11 ∨ x.Op = 12 then some hs
    else if x.Op = 10 then cmD hs x.To.toNat h
    else if x.Op = 9 then (cmD hs x.To.toNat h).bind fun q => if i + 1 < n then cmD q (i + 1) (h - 1) else none
    else if i + 1 < n then cmD hs (i + 1) (nxD h (tkD x.Op x.N)) else none
/-- .. the program's. -/
def stP (n i : Nat) (x : DIns) (hs : List Int) : Option (List Int) := match hs[i]? with
  | none => none
  | some h => if h < tkD x.Op x.N then none
    else if x.Op = 9 then if (i : Int) < x.To ∧ x.To < n ∧ h ≤ 300 then (cmD hs x.To.toNat h).bind fun q => if i + 1 < n ∧ h - 1 ≤ 300 then cmD q (i + 1) (h - 1) else none else none
    else if x.Op = 10 then if (i : Int) < x.To ∧ x.To < n ∧ h ≤ 300 then cmD hs x.To.toNat h else none
    else if x.Op = 11 then some hs
    else if x.Op = 12 then if h = 1 then some hs else none
    else if i + 1 < n ∧ nxD h (tkD x.Op x.N) ≤ 300 then cmD hs (i + 1) (nxD h (tkD x.Op x.N)) else none
def rnM (n : Nat) : Nat → List DIns → List Int → Option (List Int)
  | _, [], hs => some hs
  | i, x :: l, hs => (stM n i x hs).bind (rnM n (i + 1) l)
def rnP (n : Nat) : Nat → List DIns → List Int → Option (List Int)
  | _, [], hs => some hs
  | i, x :: l, hs => (stP n i x hs).bind (rnP n (i + 1) l)
/-- Where the instructions lead to lies behind them, and is there. -/
def ToP (n : Nat) : Nat → List DIns → Prop
  | _, [] => True
  | i, x :: l => (x.Op = 9 ∨ x.Op = 10 → (i : Int) + 1 ≤ x.To ∧ x.To ≤ (n : Int) - 1) ∧ ToP n (i + 1) l

theorem cmD_len {hs q : List Int} {k : Nat} {h : Int} (e : cmD hs k h = some q) : q.length = hs.length := by
  unfold cmD at e
  split at e
  · cases e
  · split at e
    · cases e; simp
    · split at e
      · cases e; rfl
      · cases e
theorem cmD_at {hs q : List Int} {k : Nat} {h : Int} (e : cmD hs k h = some q) : q[k]? = some h := by
  unfold cmD at e
  split at e
  · cases e
  · rename_i y hy
    split at e
    · cases e
      have := (List.getElem?_eq_some_iff.1 hy).1
      simp [this]
    · split at e
      · rename_i h1 h2
        cases e
        rw [hy, h2]
      · cases e
theorem cmD_all {P : Int → Prop} {hs q : List Int} {k : Nat} {h : Int} (e : cmD hs k h = some q) (ha : ∀ y ∈ hs, P y) (hh : P h) : ∀ y ∈ q, P y := by
  unfold cmD at e
  split at e
  · cases e
  · split at e
    · cases e
      intro y hy
      rcases List.mem_or_eq_of_mem_set hy with h1 | h1
      · exact ha y h1
      · rw [h1]; exact hh
    · split at e
      · cases e; exact ha
      · cases e

theorem rn_PM (n : Nat) : ∀ (l : List DIns) (i : Nat) (hs q : List Int), (∀ y ∈ hs, y ≤ 300) → rnP n i l hs = some q → rnM n i l hs = some q ∧ ToP n i l := by
  intro l
  induction l with
  | nil => intro i hs q _ e; exact ⟨e, trivial⟩
  | cons x l ih =>
    intro i hs q ha e
    unfold rnP at e
    obtain ⟨r, hr, er⟩ := Option.bind_eq_some_iff.1 e
    have key : stM n i x hs = some r ∧ (x.Op = 9 ∨ x.Op = 10 → (i : Int) + 1 ≤ x.To ∧ x.To ≤ (n : Int) - 1) ∧ ∀ y ∈ r, y ≤ 300 := by
      unfold stP at hr
      unfold stM
      cases hh : hs[i]? with
      | none => rw [hh] at hr; cases hr
      | some h =>
        rw [hh] at hr
        have h300 := ha h (List.mem_of_getElem? hh)
        simp only at hr ⊢
        by_cases ht : h < tkD x.Op x.N
        · rw [if_pos ht] at hr; cases hr
        rw [if_neg ht] at hr
        by_cases h9 : x.Op = 9
        · rw [if_pos h9] at hr
          split at hr
          · rename_i hc
            obtain ⟨r1, e1, e2⟩ := Option.bind_eq_some_iff.1 hr
            split at e2
            · rename_i hc2
              rw [if_neg (by omega), if_neg (by omega), if_neg (by omega), if_pos h9, e1]
              refine ⟨by simp only [Option.bind_some]; rw [if_pos hc2.1]; exact e2, fun _ => by omega, ?_⟩
              exact cmD_all e2 (cmD_all e1 ha hc.2.2) hc2.2
            · cases e2
          · cases hr
        rw [if_neg h9] at hr
        by_cases h10 : x.Op = 10
        · rw [if_pos h10] at hr
          split at hr
          · rename_i hc
            rw [if_neg (by omega), if_neg (by omega), if_pos h10]
            exact ⟨hr, fun _ => by omega, cmD_all hr ha hc.2.2⟩
          · cases hr
        rw [if_neg h10] at hr
        by_cases h11 : x.Op = 11
        · rw [if_pos h11] at hr
          cases hr
          rw [if_neg (by omega), if_pos (.inl h11)]
          exact ⟨rfl, fun e => by omega, ha⟩
        rw [if_neg h11] at hr
        by_cases h12 : x.Op = 12
        · rw [if_pos h12] at hr
          split at hr
          · cases hr
            rw [if_neg (by omega), if_pos (.inr h12)]
            exact ⟨rfl, fun e => by omega, ha⟩
          · cases hr
        rw [if_neg h12] at hr
        split at hr
        · rename_i hc
          rw [if_neg (by omega), if_neg (by omega), if_neg h10, if_neg h9, if_pos hc.1]
          exact ⟨hr, fun e => by omega, cmD_all hr ha hc.2⟩
        · cases hr
    obtain ⟨k1, k2, k3⟩ := key
    obtain ⟨j1, j2⟩ := ih (i + 1) r q k3 er
    refine ⟨?_, k2, j2⟩
    unfold rnM
    rw [k1]
    exact j1
theorem rnM_low {n : Nat} {l : List DIns} {i : Nat} {hs q : List Int} {h : Int} (hl : l ≠ []) (e : rnM n i l hs = some q) (hh : hs[i]? = some h) : h ≤ 300 := by
  cases l with
  | nil => exact absurd rfl hl
  | cons x l =>
    unfold rnM at e
    obtain ⟨r, hr, er⟩ := Option.bind_eq_some_iff.1 e
    unfold stM at hr
    rw [hh] at hr
    simp only at hr
    split at hr
    · cases hr
    · omega
theorem rn_MP (n : Nat) : ∀ (l : List DIns) (i : Nat) (hs q : List Int), n = i + l.length → rnM n i l hs = some q → ToP n i l → rnP n i l hs = some q := by
  intro l
  induction l with
  | nil => intro i hs q _ e _; exact e
  | cons x l ih =>
    intro i hs q hn e ht
    obtain ⟨t1, t2⟩ := ht
    rw [List.length_cons] at hn
    unfold rnM at e
    obtain ⟨r, hr, er⟩ := Option.bind_eq_some_iff.1 e
    have key : stP n i x hs = some r := by
      unfold stM at hr
      unfold stP
      cases hh : hs[i]? with
      | none => rw [hh] at hr; cases hr
      | some h =>
        rw [hh] at hr
        simp only at hr ⊢
        split at hr
        · cases hr
        rename_i hc
        rw [if_neg (by omega)]
        by_cases h9 : x.Op = 9
        · rw [if_neg (by omega), if_neg (by omega), if_pos h9] at hr
          rw [if_pos h9, if_pos (by omega)]
          obtain ⟨r1, e1, e2⟩ := Option.bind_eq_some_iff.1 hr
          rw [e1]
          simp only [Option.bind_some]
          split at e2
          · rename_i q2
            rw [if_pos (by omega)]
            exact e2
          · cases e2
        rw [if_neg h9]
        by_cases h10 : x.Op = 10
        · rw [if_neg (by omega), if_pos h10] at hr
          rw [if_pos h10, if_pos (by omega)]
          exact hr
        rw [if_neg h10]
        by_cases h11 : x.Op = 11
        · rw [if_pos (.inl h11)] at hr
          rw [if_pos h11]
          exact hr
        rw [if_neg h11]
        by_cases h12 : x.Op = 12
        · rw [if_pos (.inr h12)] at hr
          rw [if_pos h12, if_pos (by omega)]
          exact hr
        rw [if_neg h12]
        rw [if_neg (by omega), if_neg h10, if_neg h9] at hr
        split at hr
        · rename_i hc2
          have h3 := cmD_at hr
          have h4 : nxD h (tkD x.Op x.N) ≤ 300 := rnM_low (by intro e0; rw [e0] at hn; simp at hn; omega) er h3
          rw [if_pos ⟨hc2, h4⟩]
          exact hr
        · cases hr
    unfold rnP
    rw [key]
    exact ih (i + 1) r q (by omega) er t2
theorem rnP_last {n : Nat} : ∀ (l : List DIns) (i : Nat) (hs q : List Int) (x : DIns), n = i + l.length → rnP n i l hs = some q → l.getLast? = some x → x.Op = 12 ∨ x.Op = 11 := by
  intro l
  induction l with
  | nil => intro i hs q x _ _ h; cases h
  | cons y l ih =>
    intro i hs q x hn e h
    rw [List.length_cons] at hn
    unfold rnP at e
    obtain ⟨r, hr, er⟩ := Option.bind_eq_some_iff.1 e
    cases l with
    | nil =>
      simp at h
      subst h
      simp at hn
      unfold stP at hr
      split at hr
      · cases hr
      · split at hr
        · cases hr
        split at hr
        · split at hr
          · obtain ⟨r1, e1, e2⟩ := Option.bind_eq_some_iff.1 hr
            split at e2
            · omega
            · cases e2
          · cases hr
        split at hr
        · split at hr
          · omega
          · cases hr
        split at hr
        · exact .inr (by assumption)
        split at hr
        · exact .inl (by assumption)
        split at hr
        · omega
        · cases hr
    | cons z l => exact ih (i + 1) r q x (by omega) er (by simpa using h)

/-- The heights at the beginning. -/
def hs0 (n : Nat) : List Int := 0 :: List.replicate (n - 1) (-1)
theorem hs0_len {n : Nat} (h : 1 ≤ n) : (hs0 n).length = n := by unfold hs0; simp; omega
theorem hs0_low (n : Nat) : ∀ y ∈ hs0 n, y ≤ 300 := fun y hy => by
  unfold hs0 at hy
  rcases List.mem_cons.1 hy with rfl | h
  · decide
  · rw [(List.mem_replicate.1 h).2]; decide

/-- A function that is right. -/
def FnP {d : Nat} (c : DCode d) (i : Nat) (f : DFn) : Prop :=
  (AtomP f.Name ∧ ¬ Wrd f.Name) ∧ fnIx c.Fns f.Name = i ∧ (0 ≤ f.Args ∧ f.Args ≤ 4) ∧ (f.Args ≤ f.Slots ∧ f.Slots ≤ 400) ∧ (1 ≤ f.Ins.length ∧ f.Ins.length ≤ 1500) ∧
    (∀ x ∈ f.Ins, InsP c f.Slots x.Op x.N x.S x.To) ∧ ∃ q, rnP f.Ins.length 0 f.Ins (hs0 f.Ins.length) = some q
def pCodeOk (d : Nat) (c : DCode d) : Prop := c.Fns.length ≤ 12 ∧ c.Pats.length ≤ 2000 ∧ ∀ (i : Nat) (f : DFn), c.Fns[i]? = some f → FnP c i f

theorem rn_iff (l : List DIns) : (∃ q, rnP l.length 0 l (hs0 l.length) = some q) ↔ ToP l.length 0 l ∧ (∃ q, rnM l.length 0 l (hs0 l.length) = some q) := by
  constructor
  · rintro ⟨q, h⟩
    obtain ⟨h1, h2⟩ := rn_PM l.length l 0 _ q (hs0_low _) h
    exact ⟨h2, q, h1⟩
  · rintro ⟨h2, q, h1⟩
    exact ⟨q, rn_MP l.length l 0 _ q (by omega) h1 h2⟩
theorem ToP_iff (n : Nat) : ∀ (l : List DIns) (i : Nat), ToP n i l ↔ ∀ (j : Nat) (x : DIns), l[j]? = some x → x.Op = 9 ∨ x.Op = 10 → ((i + j : Nat) : Int) + 1 ≤ x.To ∧ x.To ≤ (n : Int) - 1 := by
  intro l
  induction l with
  | nil => intro i; exact ⟨fun _ j x h => by simp at h, fun _ => trivial⟩
  | cons y l ih =>
    intro i
    constructor
    · rintro ⟨h1, h2⟩ j x hx ho
      cases j with
      | zero => simp at hx; subst hx; exact h1 ho
      | succ j =>
        have := (ih (i + 1)).1 h2 j x (by simpa using hx) ho
        rw [show i + 1 + j = i + (j + 1) from by omega] at this
        exact this
    · intro h
      refine ⟨fun ho => h 0 y (by simp) ho, (ih (i + 1)).2 fun j x hx ho => ?_⟩
      have := h (j + 1) x (by simpa using hx) ho
      rw [show i + (j + 1) = i + 1 + j from by omega] at this
      exact this

end Go.Proofs.Ytgmddookohkhlaa
