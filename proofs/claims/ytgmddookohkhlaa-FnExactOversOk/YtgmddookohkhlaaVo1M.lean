/- A machine, as data: when it is right, and how high its frames are. -/
import Derived.Test.YtgmddookohkhlaaCk1M
import Derived.Test.YtgmddookohkhlaaDtFrameM
import Derived.Test.YtgmddookohkhlaaDt0M
namespace Go.Proofs.Ytgmddookohkhlaa
open Go.RowKit
set_option linter.unusedVariables false

/-- The heights at the instructions of a function that is right. -/
def htsD (g : DFn) : List Int := (rnP g.Ins.length 0 g.Ins (hs0 g.Ins.length)).getD []
def ZeroT {d : Nat} (t : Tm (d + 1)) : Prop := t.K = 0 ∧ t.N = 0 ∧ t.S.size = 0 ∧ t.L.length = 0
def SlotP (d : Nat) (t : Tm (d + 1)) : Prop := RightT d t ∨ ZeroT t
/-- A frame that fits the function of its number. -/
def FitF {d e : Nat} (c : DCode d) (f : DFrame e) : Prop := ∃ (k p : Nat) (g : DFn), f.F = k ∧ c.Fns[k]? = some g ∧ f.Pc = p ∧ p < g.Ins.length ∧ (f.Slots.length : Int) = g.Slots ∧ ∀ (i : Nat) (t : Tm (e + 1)), f.Slots[i]? = some t → SlotP e t
/-- How high a frame is. -/
def htF {d e : Nat} (c : DCode d) (f : DFrame e) : Int := match c.Fns[f.F.toNat]? with | none => 0 | some g => (htsD g)[f.Pc.toNat]?.getD 0
/-- A frame that is just behind a call of a function. -/
def CallF {d e : Nat} (c : DCode d) (f : DFrame e) (nx : Int) : Prop := ∃ (k p : Nat) (g : DFn) (x : DIns), f.F = k ∧ c.Fns[k]? = some g ∧ f.Pc = (p : Int) + 1 ∧ g.Ins[p]? = some x ∧ x.Op = 8 ∧ fnIx c.Fns x.S = nx
def FrP {d e : Nat} (c : DCode d) (v : DVm e) (i : Nat) : Prop := ∃ f, v.Frames[i]? = some f ∧ FitF c f ∧ ∀ g, v.Frames[i + 1]? = some g → CallF c f g.F
def tmD {d e : Nat} (c : DCode d) (v : DVm e) (i : Nat) : Int := match v.Frames[i]? with | none => 0 | some f => if i + 1 < v.Frames.length then htF c f - 1 else htF c f
def hiD {d e : Nat} (c : DCode d) (v : DVm e) : Nat → Int
  | 0 => 0
  | j + 1 => hiD c v j + tmD c v j
def pVmOk {d e : Nat} (c : DCode d) (v : DVm e) : Prop :=
  pCodeOk d c ∧ (1 ≤ v.Frames.length ∧ v.Frames.length ≤ 40) ∧ (∀ i, i < v.Frames.length → FrP c v i) ∧ (v.Stack.length : Int) = hiD c v v.Frames.length ∧ ∀ (i : Nat) (t : Tm (e + 1)), v.Stack[i]? = some t → RightT e t

theorem wrap64_in (n : Int) (h : -9223372036854775808 ≤ n ∧ n ≤ 9223372036854775807) : wrap64 n = n := by unfold wrap64; omega
theorem wrapI_in (n : Int) (h : -9223372036854775808 ≤ n ∧ n ≤ 9223372036854775807) : IntKind.i64.wrap n = n := by rw [IntKind.wrap_i64]; omega
theorem inI_yes {x a b : Int} (h : inI x a b = true) : a ≤ x ∧ x ≤ b := by simpa [inI] using h
theorem inI_no {x a b : Int} (h : inI x a b = false) : ¬ (a ≤ x ∧ x ≤ b) := by
  intro hh
  have : inI x a b = true := by simpa [inI] using hh
  rw [h] at this
  cases this

theorem cmD_keep {hs q : List Int} {k : Nat} {h : Int} (e : cmD hs k h = some q) {j : Nat} {y : Int} (hy : hs[j]? = some y) (hn : y ≠ -1) : q[j]? = some y := by
  unfold cmD at e
  split at e
  · cases e
  · rename_i z hz
    split at e
    · rename_i h1
      cases e
      have hjk : k ≠ j := fun h2 => by subst h2; rw [hz] at hy; cases hy; exact hn h1
      rw [List.getElem?_set_ne hjk]
      exact hy
    · split at e
      · cases e; exact hy
      · cases e

theorem nxD_eq {h t : Int} (h0 : 0 ≤ t) (h1 : t ≤ h) (h2 : h ≤ 300) : nxD h t = h - t + 1 := by
  unfold nxD
  rw [wrap64_in (h - t) (by omega)]
  exact wrap64_in (h - t + 1) (by omega)

/-- What one step of the heights keeps. -/
theorem stP_facts {n i : Nat} {x : DIns} {hs r : List Int} (ht : 0 ≤ tkD x.Op x.N) (ha : ∀ y ∈ hs, -1 ≤ y ∧ y ≤ 300) (hr : stP n i x hs = some r) :
    (∀ y ∈ r, -1 ≤ y ∧ y ≤ 300) ∧ (∀ (j : Nat) (y : Int), hs[j]? = some y → y ≠ -1 → r[j]? = some y) ∧ r.length = hs.length ∧
      (x.Op = 8 → ∃ h, hs[i]? = some h ∧ x.N ≤ h ∧ r[i + 1]? = some (h - x.N + 1)) := by
  unfold stP at hr
  cases hh : hs[i]? with
  | none => rw [hh] at hr; cases hr
  | some h =>
    rw [hh] at hr
    have hb := ha h (List.mem_of_getElem? hh)
    simp only at hr
    by_cases hk : h < tkD x.Op x.N
    · rw [if_pos hk] at hr; cases hr
    rw [if_neg hk] at hr
    by_cases h9 : x.Op = 9
    · have t9 : tkD x.Op x.N = 1 := by unfold tkD; rw [if_neg (by omega), if_neg (by omega), if_pos (by omega)]
      rw [if_pos h9] at hr
      split at hr
      · rename_i hc
        obtain ⟨r1, e1, e2⟩ := Option.bind_eq_some_iff.1 hr
        split at e2
        · rename_i hc2
          exact ⟨cmD_all (P := fun y => -1 ≤ y ∧ y ≤ 300) e2 (cmD_all (P := fun y => -1 ≤ y ∧ y ≤ 300) e1 ha hb) ⟨by omega, by omega⟩, fun j y hy hn => cmD_keep e2 (cmD_keep e1 hy hn) hn, (cmD_len e2).trans (cmD_len e1), fun h8 => by omega⟩
        · cases e2
      · cases hr
    rw [if_neg h9] at hr
    by_cases h10 : x.Op = 10
    · rw [if_pos h10] at hr
      split at hr
      · exact ⟨cmD_all (P := fun y => -1 ≤ y ∧ y ≤ 300) hr ha hb, fun j y hy hn => cmD_keep hr hy hn, cmD_len hr, fun h8 => by omega⟩
      · cases hr
    rw [if_neg h10] at hr
    by_cases h11 : x.Op = 11
    · rw [if_pos h11] at hr
      cases hr
      exact ⟨ha, fun j y hy _ => hy, rfl, fun h8 => by omega⟩
    rw [if_neg h11] at hr
    by_cases h12 : x.Op = 12
    · rw [if_pos h12] at hr
      split at hr
      · cases hr
        exact ⟨ha, fun j y hy _ => hy, rfl, fun h8 => by omega⟩
      · cases hr
    rw [if_neg h12] at hr
    split at hr
    · rename_i hc
      rw [nxD_eq ht (by omega) hb.2] at hr
      have hc2 : h - tkD x.Op x.N + 1 ≤ 300 := by have := hc.2; rw [nxD_eq ht (by omega) hb.2] at this; exact this
      refine ⟨cmD_all (P := fun y => -1 ≤ y ∧ y ≤ 300) hr ha ⟨by omega, hc2⟩, fun j y hy hn => cmD_keep hr hy hn, cmD_len hr, fun h8 => ?_⟩
      have t8 : tkD x.Op x.N = x.N := by unfold tkD; rw [if_pos (by omega)]
      rw [t8] at hr hk
      exact ⟨h, rfl, by omega, cmD_at hr⟩
    · cases hr

theorem rnP_facts (n : Nat) : ∀ (l : List DIns) (i : Nat) (hs q : List Int), (∀ x ∈ l, 0 ≤ tkD x.Op x.N) → (∀ y ∈ hs, -1 ≤ y ∧ y ≤ 300) → rnP n i l hs = some q →
    (∀ y ∈ q, -1 ≤ y ∧ y ≤ 300) ∧ (∀ (j : Nat) (y : Int), hs[j]? = some y → y ≠ -1 → q[j]? = some y) ∧ q.length = hs.length ∧
      (∀ (k : Nat) (x : DIns), l[k]? = some x → x.Op = 8 → ∃ h, q[i + k]? = some h ∧ q[i + k + 1]? = some (h - x.N + 1)) := by
  intro l
  induction l with
  | nil =>
    intro i hs q _ ha e
    have e' : hs = q := by simpa [rnP] using e
    subst e'
    exact ⟨ha, fun j y hy _ => hy, rfl, fun k x hx => by simp at hx⟩
  | cons x l ih =>
    intro i hs q ht ha e
    unfold rnP at e
    obtain ⟨r, hr, er⟩ := Option.bind_eq_some_iff.1 e
    have htx := ht x (by simp)
    obtain ⟨s1, s2, s3, s4⟩ := stP_facts htx ha hr
    obtain ⟨t1, t2, t3, t4⟩ := ih (i + 1) r q (fun y hy => ht y (by simp [hy])) s1 er
    refine ⟨t1, fun j y hy hn => t2 j y (s2 j y hy hn) hn, t3.trans s3, fun k y hy h8 => ?_⟩
    cases k with
    | zero =>
      simp at hy
      subst hy
      obtain ⟨h, g1, g2, g3⟩ := s4 h8
      have t8 : tkD x.Op x.N = x.N := by unfold tkD; rw [if_pos (by omega)]
      exact ⟨h, t2 _ _ (s2 _ _ g1 (by omega)) (by omega), t2 _ _ g3 (by omega)⟩
    | succ k =>
      obtain ⟨h, g1, g2⟩ := t4 k y (by simpa using hy) h8
      exact ⟨h, by rw [show i + (k + 1) = i + 1 + k from by omega]; exact g1, by rw [show i + (k + 1) + 1 = i + 1 + k + 1 from by omega]; exact g2⟩

theorem hs0_in (n : Nat) : ∀ y ∈ hs0 n, -1 ≤ y ∧ y ≤ 300 := fun y hy => by
  unfold hs0 at hy
  rcases List.mem_cons.1 hy with rfl | h
  · decide
  · rw [(List.mem_replicate.1 h).2]; decide

theorem tk_pos {d : Nat} {c : DCode d} (hc : pCodeOk d c) {sl op n : Int} {s : ByteArray} {tq : Int} (h : InsP c sl op n s tq) : 0 ≤ tkD op n := by
  unfold InsP at h
  unfold tkD
  rcases h with h | h | h | h | h | h | h | h | h | h | h | h
  case inr.inr.inr.inr.inr.inr.inr.inl =>
    obtain ⟨h1, _, k, f, _, hf, ha⟩ := h
    have := (hc.2.2 k f hf).2.2.1.1
    rw [if_pos (by omega)]
    omega
  all_goals
    have h1 := h.1
    first
      | (rw [if_neg (by omega), if_neg (by omega), if_neg (by omega)]; decide)
      | (rw [if_pos (by omega)]; omega)
      | (rw [if_neg (by omega), if_pos (by omega)]; decide)
      | (rw [if_neg (by omega), if_neg (by omega), if_pos (by omega)]; decide)

/-- The heights of a function of code that is right. -/
theorem hts_facts {d : Nat} {c : DCode d} (hc : pCodeOk d c) {k : Nat} {g : DFn} (hg : c.Fns[k]? = some g) :
    rnP g.Ins.length 0 g.Ins (hs0 g.Ins.length) = some (htsD g) ∧ (htsD g).length = g.Ins.length ∧ (∀ y ∈ htsD g, -1 ≤ y ∧ y ≤ 300) ∧
      ∀ (p : Nat) (x : DIns), g.Ins[p]? = some x → x.Op = 8 → ∃ h, (htsD g)[p]? = some h ∧ (htsD g)[p + 1]? = some (h - x.N + 1) := by
  obtain ⟨_, _, _, _, h5, h6, q, h7⟩ := hc.2.2 k g hg
  have e : htsD g = q := by unfold htsD; rw [h7]; rfl
  rw [e]
  obtain ⟨t1, _, t3, t4⟩ := rnP_facts g.Ins.length g.Ins 0 _ q (fun x hx => tk_pos hc (h6 x hx)) (hs0_in _) h7
  refine ⟨h7, t3.trans (hs0_len h5.1), t1, fun p x hx h8 => ?_⟩
  have := t4 p x hx h8
  simpa using this

theorem htF_at {d e : Nat} {c : DCode d} (hc : pCodeOk d c) {f : DFrame e} {k p : Nat} {g : DFn} (hk : f.F = k) (hg : c.Fns[k]? = some g) (hp : f.Pc = p) (hl : p < g.Ins.length) : (htsD g)[p]? = some (htF c f) ∧ -1 ≤ htF c f ∧ htF c f ≤ 300 := by
  obtain ⟨_, h2, h3, _⟩ := hts_facts hc hg
  have e1 : htF c f = (htsD g)[p]?.getD 0 := by unfold htF; rw [hk, hp]; simp [hg]
  have h4 : (htsD g)[p]? = some (htsD g)[p] := List.getElem?_eq_getElem (by omega)
  rw [h4] at e1
  have e2 : htF c f = (htsD g)[p] := e1
  rw [e2]
  exact ⟨h4, h3 _ (List.getElem_mem _)⟩

/-- Behind a call: the height is that at the call, less what it took, and what it leaves. -/
theorem htF_call {d e : Nat} {c : DCode d} (hc : pCodeOk d c) {f : DFrame e} {k p : Nat} {g : DFn} {x : DIns} (hk : f.F = k) (hg : c.Fns[k]? = some g) (hp : f.Pc = (p : Int) + 1) (hx : g.Ins[p]? = some x) (h8 : x.Op = 8) (hl : p + 1 < g.Ins.length) :
    ∃ h, (htsD g)[p]? = some h ∧ h - x.N = htF c f - 1 := by
  obtain ⟨_, _, _, h4⟩ := hts_facts hc hg
  obtain ⟨h, g1, g2⟩ := h4 p x hx h8
  have := (htF_at hc hk hg (p := p + 1) (by rw [hp]; rfl) hl).1
  rw [g2] at this
  refine ⟨h, g1, ?_⟩
  have e : h - x.N + 1 = htF c f := by simpa using this
  omega

theorem FitF.at {d e : Nat} {c : DCode d} {f : DFrame e} (h : FitF c f) {k : Nat} {g : DFn} (hk : f.F = k) (hg : c.Fns[k]? = some g) : ∃ p : Nat, f.Pc = p ∧ p < g.Ins.length := by
  obtain ⟨k', p, g', e1, e2, e3, e4, _⟩ := h
  have : k' = k := by omega
  subst this
  rw [hg] at e2
  cases e2
  exact ⟨p, e3, e4⟩

theorem FrP.bound {d e : Nat} {c : DCode d} (hc : pCodeOk d c) {v : DVm e} {i : Nat} (h : FrP c v i) : -2 ≤ tmD c v i ∧ tmD c v i ≤ 300 := by
  obtain ⟨f, hf, ⟨k, p, g, e1, e2, e3, e4, _⟩, _⟩ := h
  have := (htF_at hc e1 e2 e3 e4).2
  unfold tmD
  rw [hf]
  simp only
  split <;> omega
theorem hiD_bound {d e : Nat} {c : DCode d} (hc : pCodeOk d c) {v : DVm e} : ∀ (j : Nat), (∀ i, i < j → FrP c v i) → -2 * (j : Int) ≤ hiD c v j ∧ hiD c v j ≤ 300 * (j : Int) := by
  intro j
  induction j with
  | zero => intro _; simp [hiD]
  | succ j ih =>
    intro h
    have h1 := ih fun i hi => h i (by omega)
    have h2 := (h j (by omega)).bound hc
    unfold hiD
    omega

theorem fitF_iff {d e : Nat} {c : DCode d} {f : DFrame e} {k : Nat} {g : DFn} (hk : f.F = k) (hg : c.Fns[k]? = some g) :
    FitF c f ↔ (0 ≤ f.Pc ∧ f.Pc < g.Ins.length) ∧ (f.Slots.length : Int) = g.Slots ∧ ∀ (i : Nat) (t : Tm (e + 1)), f.Slots[i]? = some t → SlotP e t := by
  constructor
  · rintro ⟨k', p, g', e1, e2, e3, e4, e5, e6⟩
    have : k' = k := by omega
    subst this
    rw [hg] at e2
    cases e2
    exact ⟨⟨by omega, by omega⟩, e5, e6⟩
  · rintro ⟨⟨h1, h2⟩, h3, h4⟩
    exact ⟨k, f.Pc.toNat, g, hk, hg, by omega, by omega, h3, h4⟩
theorem fitF_no {d e : Nat} {c : DCode d} {f : DFrame e} (h : f.F < 0 ∨ (c.Fns.length : Int) ≤ f.F) : ¬ FitF c f := by
  rintro ⟨k, p, g, e1, e2, _⟩
  have := (List.getElem?_eq_some_iff.1 e2).1
  omega
theorem callF_iff {d e : Nat} {c : DCode d} {f : DFrame e} {k p : Nat} {g : DFn} {x : DIns} {nx : Int} (hk : f.F = k) (hg : c.Fns[k]? = some g) (hp : f.Pc = (p : Int) + 1) (hx : g.Ins[p]? = some x) : CallF c f nx ↔ x.Op = 8 ∧ fnIx c.Fns x.S = nx := by
  constructor
  · rintro ⟨k', p', g', x', e1, e2, e3, e4, e5, e6⟩
    have : k' = k := by omega
    subst this
    rw [hg] at e2
    cases e2
    have : p' = p := by omega
    subst this
    rw [hx] at e4
    cases e4
    exact ⟨e5, e6⟩
  · rintro ⟨h1, h2⟩
    exact ⟨k, p, g, x, hk, hg, hp, hx, h1, h2⟩
theorem callF_no {d e : Nat} {c : DCode d} {f : DFrame e} {nx : Int} (h : f.Pc = 0) : ¬ CallF c f nx := by
  rintro ⟨k, p, g, x, e1, e2, e3, _⟩
  omega

end Go.Proofs.Ytgmddookohkhlaa
