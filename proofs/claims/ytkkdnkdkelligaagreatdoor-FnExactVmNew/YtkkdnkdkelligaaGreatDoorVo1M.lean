/- A machine, as data: when it is right, and how high its frames are. -/
import Derived.Test.YtkkdnkdkelligaaGreatDoorCk1M
import Derived.Test.YtkkdnkdkelligaaGreatDoorDtFrameM
import Derived.Test.YtkkdnkdkelligaaGreatDoorDt0M
import Derived.Test.YtkkdnkdkelligaaGreatDoorIOkM
namespace Go.Proofs.YtkkdnkdkelligaaGreatDoor
open Go.RowKit
set_option linter.unusedVariables false

/-- The heights at the instructions of a function that is right. -/
def htsD (g : DFn) : List Int := (rnP g.Ins.length 0 g.Ins (hs0 g.Ins.length)).getD []
def ZeroT {d : Nat} (t : Tm (d + 1)) : Prop := t.K = 0 ∧ t.N = 0 ∧ t.S.size = 0 ∧ t.L.length = 0
def SlotP (d : Nat) (t : Tm (d + 1)) : Prop := RightT d t ∨ ZeroT t
/-- A frame that fits the function of its number. -/
def FitF {d e : Nat} (c : DCode d) (f : DFrame e) : Prop := ∃ (k p : Nat) (g : DFn), f.F = k ∧ c.Fns[k]? = some g ∧ f.Pc = p ∧ p < g.Ins.length ∧ (f.Slots.length : Int) = g.Slots ∧ ∀ (i : Nat) (t : Tm (e + 1)), f.Slots[i]? = some t → SlotP e t
/-- How high a frame is. -/
def htF {d e : Nat} (c : DCode d) (f : DFrame e) : Int := match c.Fns[f.F.toNat]? with | none => 0 | some g => (htsD g)[f.Pc.toNat]?.getD 0
/-- A frame that is just behind a call of a function. -/
def CallF {d e : Nat} (c : DCode d) (f : DFrame e) (nx : Int) : Prop := ∃ (k p : Nat) (g : DFn) (x : DIns), f.F = k ∧ c.Fns[k]? = some g ∧ f.Pc = (p : Int) + 1 ∧ g.Ins[p]? = some x ∧ x.Op = 8 ∧ fnIx c.Fns x.S = nx
def FrP {d e : Nat} (c : DCode d) (v : DVm e) (i : Nat) : Prop := ∃ f, v.Frames[i]? = some f ∧ FitF c f ∧ ∀ g, v.Frames[i + 1]? = some g → CallF c f g.F
def tmD {d e : Nat} (c : DCode d) (v : DVm e) (i : Nat) : Int := match v.Frames[i]? with | none => 0 | some f => if i + 1 < v.Frames.length then htF c f - 1 else htF c f
def hiD {d e : Nat} (c : DCode d) (v : DVm e) : Nat → Int
  | 0 => 0
  | j + 1 => hiD c v j + tmD c v j
def pVmOk {d e : Nat} (c : DCode d) (v : DVm e) : Prop :=
  pCodeOk d c ∧ (1 ≤ v.Frames.length ∧ v.Frames.length ≤ 40) ∧ (∀ i, i < v.Frames.length → FrP c v i) ∧ (v.Stack.length : Int) = hiD c v v.Frames.length ∧ ∀ (i : Nat) (t : Tm (e + 1)), v.Stack[i]? = some t → RightT e t

theorem wrap64_in (n : Int) (h : -9223372036854775808 ≤ n ∧ n ≤ 9223372036854775807) : wrap64 n = n := by unfold wrap64; omega
theorem wrapI_in (n : Int) (h : -9223372036854775808 ≤ n ∧ n ≤ 9223372036854775807) : IntKind.i64.wrap n = n := by rw [IntKind.wrap_i64]; omega
theorem inI_yes {x a b : Int} (h : inI x a b = true) : a ≤ x ∧ x ≤ b := by simpa [inI] using h
theorem inI_no {x a b : Int} (h : inI x a b = false) : ¬ (a ≤ x ∧ x ≤ b) := by
  intro hh
  have : inI x a b = true := by simpa [inI] using hh
  rw [h] at this
  cases this

theorem cmD_keep {hs q : List Int} {k : Nat} {h : Int} (e : cmD hs k h = some q) {j : Nat} {y : Int} (hy : hs[j]? = some y) (hn : y ≠ -1) : q[j]? = some y := by
  unfold cmD at e
  split at e
  · cases e
  · rename_i z hz
    split at e
    · rename_i h1
      cases e
      have hjk : k ≠ j := fun h2 => by subst h2; rw [hz] at hy; cases hy; exact hn h1
      rw [List.getElem?_set_ne hjk]
      exact hy
    · split at e
      · cases e; exact hy
      · cases e

theorem nxD_eq {h t : Int} (h0 : 0 ≤ t) (h1 : t ≤ h) (h2 : h ≤ 300) : nxD h t = h - t + 1 := by
  unfold nxD
  rw [wrap64_in (h - t) (by omega)]
  exact wrap64_in (h - t + 1) (by omega)

/-- What one step of the heights keeps. -/
theorem stP_facts {n i : Nat} {x : DIns} {hs r : List Int} (ht : 0 ≤ tkD x.Op x.N) (ha : ∀ y ∈ hs, -1 ≤ y ∧ y ≤ 300) (hr : stP n i x hs = some r) :
    (∀ y ∈ r, -1 ≤ y ∧ y ≤ 300) ∧ (∀ (j : Nat) (y : Int), hs[j]? = some y → y ≠ -1 → r[j]? = some y) ∧ r.length = hs.length ∧
      (x.Op = 8 → ∃ h, hs[i]? = some h ∧ x.N ≤ h ∧ r[i + 1]? = some (h - x.N + 1)) := by
  unfold stP at hr
  cases hh : hs[i]? with
  | none => rw [hh] at hr; cases hr
  | some h =>
    rw [hh] at hr
    have hb := ha h (List.mem_of_getElem? hh)
    simp only at hr
    by_cases hk : h < tkD x.Op x.N
    · rw [if_pos hk] at hr; cases hr
    rw [if_neg hk] at hr
    by_cases h9 : x.Op = 9
    · have t9 : tkD x.Op x.N = 1 := by unfold tkD; rw [if_neg (by omega), if_neg (by omega), if_pos (by omega)]
      rw [if_pos h9] at hr
      split at hr
      · rename_i hc
        obtain ⟨r1, e1, e2⟩ := Option.bind_eq_some_iff.1 hr
        split at e2
        · rename_i hc2
          exact ⟨cmD_all (P := fun y => -1 ≤ y ∧ y ≤ 300) e2 (cmD_all (P := fun y => -1 ≤ y ∧ y ≤ 300) e1 ha hb) ⟨by omega, by omega⟩, fun j y hy hn => cmD_keep e2 (cmD_keep e1 hy hn) hn, (cmD_len e2).trans (cmD_len e1), fun h8 => by omega⟩
        · cases e2
      · cases hr
    rw [if_neg h9] at hr
    by_cases h10 : x.Op = 10
    · rw [if_pos h10] at hr
      split at hr
      · exact ⟨cmD_all (P := fun y => -1 ≤ y ∧ y ≤ 300) hr ha hb, fun j y hy hn => cmD_keep hr hy hn, cmD_len hr, fun h8 => by omega⟩
      · cases hr
    rw [if_neg h10] at hr
    by_cases h11 : x.Op = 11
    · rw [if_pos h11] at hr
      cases hr
      exact ⟨ha, fun j y hy _ => hy, rfl, fun h8 => by omega⟩
    rw [if_neg h11] at hr
    by_cases h12 : x.Op = 12
    · rw [if_pos h12] at hr
      split at hr
      · cases hr
        exact ⟨ha, fun j y hy _ => hy, rfl, fun h8 => by omega⟩
      · cases hr
    rw [if_neg h12] at hr
    split at hr
    · rename_i hc
      rw [nxD_eq ht (by omega) hb.2] at hr
      have hc2 : h - tkD x.Op x.N + 1 ≤ 300 := by have := hc.2; rw [nxD_eq ht (by omega) hb.2] at this; exact this
      refine ⟨cmD_all (P := fun y => -1 ≤ y ∧ y ≤ 300) hr ha ⟨by omega, hc2⟩, fun j y hy hn => cmD_keep hr hy hn, cmD_len hr, fun h8 => ?_⟩
      have t8 : tkD x.Op x.N = x.N := by unfold tkD; rw [if_pos (by omega)]
      rw [t8] at hr hk
      exact ⟨h, rfl, by omega, cmD_at hr⟩
    · cases hr

theorem rnP_facts (n : Nat) : ∀ (l : List DIns) (i : Nat) (hs q : List Int), (∀ x ∈ l, 0 ≤ tkD x.Op x.N) → (∀ y ∈ hs, -1 ≤ y ∧ y ≤ 300) → rnP n i l hs = some q →
    (∀ y ∈ q, -1 ≤ y ∧ y ≤ 300) ∧ (∀ (j : Nat) (y : Int), hs[j]? = some y → y ≠ -1 → q[j]? = some y) ∧ q.length = hs.length ∧
      (∀ (k : Nat) (x : DIns), l[k]? = some x → x.Op = 8 → ∃ h, q[i + k]? = some h ∧ q[i + k + 1]? = some (h - x.N + 1)) := by
  intro l
  induction l with
  | nil =>
    intro i hs q _ ha e
    have e' : hs = q := by simpa [rnP] using e
    subst e'
    exact ⟨ha, fun j y hy _ => hy, rfl, fun k x hx => by simp at hx⟩
  | cons x l ih =>
    intro i hs q ht ha e
    unfold rnP at e
    obtain ⟨r, hr, er⟩ := Option.bind_eq_some_iff.1 e
    have htx := ht x (by simp)
    obtain ⟨s1, s2, s3, s4⟩ := stP_facts htx ha hr
    obtain ⟨t1, t2, t3, t4⟩ := ih (i + 1) r q (fun y hy => ht y (by simp [hy])) s1 er
    refine ⟨t1, fun j y hy hn => t2 j y (s2 j y hy hn) hn, t3.trans s3, fun k y hy h8 => ?_⟩
    cases k with
    | zero =>
      simp at hy
      subst hy
      obtain ⟨h, g1, g2, g3⟩ := s4 h8
      have t8 : tkD x.Op x.N = x.N := by unfold tkD; rw [if_pos (by omega)]
      exact ⟨h, t2 _ _ (s2 _ _ g1 (by omega)) (by omega), t2 _ _ g3 (by omega)⟩
    | succ k =>
      obtain ⟨h, g1, g2⟩ := t4 k y (by simpa using hy) h8
      exact ⟨h, by rw [show i + (k + 1) = i + 1 + k from by omega]; exact g1, by rw [show i + (k + 1) + 1 = i + 1 + k + 1 from by omega]; exact g2⟩

theorem hs0_in (n : Nat) : ∀ y ∈ hs0 n, -1 ≤ y ∧ y ≤ 300 := fun y hy => by
  unfold hs0 at hy
  rcases List.mem_cons.1 hy with rfl | h
  · decide
  · rw [(List.mem_replicate.1 h).2]; decide

theorem tk_pos {d : Nat} {c : DCode d} (hc : pCodeOk d c) {sl op n : Int} {s : ByteArray} {tq : Int} (h : InsP c sl op n s tq) : 0 ≤ tkD op n := by
  unfold InsP at h
  unfold tkD
  rcases h with h | h | h | h | h | h | h | h | h | h | h | h
  case inr.inr.inr.inr.inr.inr.inr.inl =>
    obtain ⟨h1, _, k, f, _, hf, ha⟩ := h
    have := (hc.2.2 k f hf).2.2.1.1
    rw [if_pos (by omega)]
    omega
  all_goals
    have h1 := h.1
    first
      | (rw [if_neg (by omega), if_neg (by omega), if_neg (by omega)]; decide)
      | (rw [if_pos (by omega)]; omega)
      | (rw [if_neg (by omega), if_pos (by omega)]; decide)
      | (rw [if_neg (by omega), if_neg (by omega), if_pos (by omega)]; decide)

/-- The heights of a function of code that is right. -/
theorem hts_facts {d : Nat} {c : DCode d} (hc : pCodeOk d c) {k : Nat} {g : DFn} (hg : c.Fns[k]? = some g) :
    rnP g.Ins.length 0 g.Ins (hs0 g.Ins.length) = some (htsD g) ∧ (htsD g).length = g.Ins.length ∧ (∀ y ∈ htsD g, -1 ≤ y ∧ y ≤ 300) ∧
      ∀ (p : Nat) (x : DIns), g.Ins[p]? = some x → x.Op = 8 → ∃ h, (htsD g)[p]? = some h ∧ (htsD g)[p + 1]? = some (h - x.N + 1) := by
  obtain ⟨_, _, _, _, h5, h6, q, h7⟩ := hc.2.2 k g hg
  have e : htsD g = q := by unfold htsD; rw [h7]; rfl
  rw [e]
  obtain ⟨t1, _, t3, t4⟩ := rnP_facts g.Ins.length g.Ins 0 _ q (fun x hx => tk_pos hc (h6 x hx)) (hs0_in _) h7
  refine ⟨h7, t3.trans (hs0_len h5.1), t1, fun p x hx h8 => ?_⟩
  have := t4 p x hx h8
  simpa using this

theorem htF_at {d e : Nat} {c : DCode d} (hc : pCodeOk d c) {f : DFrame e} {k p : Nat} {g : DFn} (hk : f.F = k) (hg : c.Fns[k]? = some g) (hp : f.Pc = p) (hl : p < g.Ins.length) : (htsD g)[p]? = some (htF c f) ∧ -1 ≤ htF c f ∧ htF c f ≤ 300 := by
  obtain ⟨_, h2, h3, _⟩ := hts_facts hc hg
  have e1 : htF c f = (htsD g)[p]?.getD 0 := by unfold htF; rw [hk, hp]; simp [hg]
  have h4 : (htsD g)[p]? = some (htsD g)[p] := List.getElem?_eq_getElem (by omega)
  rw [h4] at e1
  have e2 : htF c f = (htsD g)[p] := e1
  rw [e2]
  exact ⟨h4, h3 _ (List.getElem_mem _)⟩

/-- Behind a call: the height is that at the call, less what it took, and what it leaves. -/
theorem htF_call {d e : Nat} {c : DCode d} (hc : pCodeOk d c) {f : DFrame e} {k p : Nat} {g : DFn} {x : DIns} (hk : f.F = k) (hg : c.Fns[k]? = some g) (hp : f.Pc = (p : Int) + 1) (hx : g.Ins[p]? = some x) (h8 : x.Op = 8) (hl : p + 1 < g.Ins.length) :
    ∃ h, (htsD g)[p]? = some h ∧ h - x.N = htF c f - 1 := by
  obtain ⟨_, _, _, h4⟩ := hts_facts hc hg
  obtain ⟨h, g1, g2⟩ := h4 p x hx h8
  have := (htF_at hc hk hg (p := p + 1) (by rw [hp]; rfl) hl).1
  rw [g2] at this
  refine ⟨h, g1, ?_⟩
  have e : h - x.N + 1 = htF c f := by simpa using this
  omega

theorem FitF.at {d e : Nat} {c : DCode d} {f : DFrame e} (h : FitF c f) {k : Nat} {g : DFn} (hk : f.F = k) (hg : c.Fns[k]? = some g) : ∃ p : Nat, f.Pc = p ∧ p < g.Ins.length := by
  obtain ⟨k', p, g', e1, e2, e3, e4, _⟩ := h
  have : k' = k := by omega
  subst this
  rw [hg] at e2
  cases e2
  exact ⟨p, e3, e4⟩

theorem FrP.bound {d e : Nat} {c : DCode d} (hc : pCodeOk d c) {v : DVm e} {i : Nat} (h : FrP c v i) : -2 ≤ tmD c v i ∧ tmD c v i ≤ 300 := by
  obtain ⟨f, hf, ⟨k, p, g, e1, e2, e3, e4, _⟩, _⟩ := h
  have := (htF_at hc e1 e2 e3 e4).2
  unfold tmD
  rw [hf]
  simp only
  split <;> omega
theorem hiD_bound {d e : Nat} {c : DCode d} (hc : pCodeOk d c) {v : DVm e} : ∀ (j : Nat), (∀ i, i < j → FrP c v i) → -2 * (j : Int) ≤ hiD c v j ∧ hiD c v j ≤ 300 * (j : Int) := by
  intro j
  induction j with
  | zero => intro _; simp [hiD]
  | succ j ih =>
    intro h
    have h1 := ih fun i hi => h i (by omega)
    have h2 := (h j (by omega)).bound hc
    unfold hiD
    omega

theorem fitF_iff {d e : Nat} {c : DCode d} {f : DFrame e} {k : Nat} {g : DFn} (hk : f.F = k) (hg : c.Fns[k]? = some g) :
    FitF c f ↔ (0 ≤ f.Pc ∧ f.Pc < g.Ins.length) ∧ (f.Slots.length : Int) = g.Slots ∧ ∀ (i : Nat) (t : Tm (e + 1)), f.Slots[i]? = some t → SlotP e t := by
  constructor
  · rintro ⟨k', p, g', e1, e2, e3, e4, e5, e6⟩
    have : k' = k := by omega
    subst this
    rw [hg] at e2
    cases e2
    exact ⟨⟨by omega, by omega⟩, e5, e6⟩
  · rintro ⟨⟨h1, h2⟩, h3, h4⟩
    exact ⟨k, f.Pc.toNat, g, hk, hg, by omega, by omega, h3, h4⟩
theorem fitF_no {d e : Nat} {c : DCode d} {f : DFrame e} (h : f.F < 0 ∨ (c.Fns.length : Int) ≤ f.F) : ¬ FitF c f := by
  rintro ⟨k, p, g, e1, e2, _⟩
  have := (List.getElem?_eq_some_iff.1 e2).1
  omega
theorem callF_iff {d e : Nat} {c : DCode d} {f : DFrame e} {k p : Nat} {g : DFn} {x : DIns} {nx : Int} (hk : f.F = k) (hg : c.Fns[k]? = some g) (hp : f.Pc = (p : Int) + 1) (hx : g.Ins[p]? = some x) : CallF c f nx ↔ x.Op = 8 ∧ fnIx c.Fns x.S = nx := by
  constructor
  · rintro ⟨k', p', g', x', e1, e2, e3, e4, e5, e6⟩
    have : k' = k := by omega
    subst this
    rw [hg] at e2
    cases e2
    have : p' = p := by omega
    subst this
    rw [hx] at e4
    cases e4
    exact ⟨e5, e6⟩
  · rintro ⟨h1, h2⟩
    exact ⟨k, p, g, x, hk, hg, hp, hx, h1, h2⟩
theorem callF_no {d e : Nat} {c : DCode d} {f : DFrame e} {nx : Int} (h : f.Pc = 0) : ¬ CallF c f nx := by
  rintro ⟨k, p, g, x, e1, e2, e3, _⟩
  omega

end Go.Proofs.YtkkdnkdkelligaaGreatDoor

/- A slot that has nothing, slots and terms that are right: the program's. -/
namespace Go.Proofs.YtkkdnkdkelligaaGreatDoor
open Go.RowKit
set_option linter.unusedVariables false

set_option maxRecDepth 100000 in
set_option maxHeartbeats 2000000 in
theorem isNothing_any (k n : Int) (s : ByteArray) (a : Option Addr) (len c : Nat) (w : World) (hs : s.size ≤ 9223372036854775807) (hlen : len ≤ 9223372036854775807) :
    Calls Tryz.prog 89 #[.agg #[.int .i64 k, .int .i64 n, .string s, .slice a len c]] w fun e w' => BRes (k = 0 ∧ n = 0 ∧ s.size = 0 ∧ len = 0) w e w' := by
  have hA : Below w.heap.size w (w.alloc (.cells #[.int .i64 k, .int .i64 n, .string s, .slice a len c] 66)) := (Below.refl _ _).alloc (Nat.le_refl _) _
  obtain ⟨PP, hPP⟩ : ∃ P : Prop, (k = 0 ∧ n = 0 ∧ s.size = 0 ∧ len = 0) = P := ⟨_, rfl⟩
  have HPP : Hid ((k = 0 ∧ n = 0 ∧ s.size = 0 ∧ len = 0) = PP) := hPP
  rw [hPP]
  clear hPP
  by_cases hc0 : k = 0
  · have HP0 : Hid (k = 0) := hc0
    have hk0 : (k == 0) = true := by simp [hc0]
    clear hc0
    by_cases hc1 : n = 0
    · have HP1 : Hid (n = 0) := hc1
      have hn0 : (n == 0) = true := by simp [hc1]
      clear hc1
      by_cases hc2 : s.size = 0
      · have HP2 : Hid (s.size = 0) := hc2
        have he : s.toList.isEmpty = true := (empty_iff s).2 hc2
        clear hc2
        by_cases hc3 : len = 0
        · have HP3 : Hid (len = 0) := hc3
          have hl0 : ((len : Int) == 0) = true := by simp [hc3]
          clear hc3
          have HF : Hid PP := by rw [← HPP.out]; exact ⟨(HP0.out), (HP1.out), (HP2.out), (HP3.out)⟩
          go_enter Tryz.func89, Tryz.ntmps89
          go_wp2_with fail
          go_ret
          exact bres_yes HF.out hA
        · have HF : Hid (¬ PP) := by rw [← HPP.out]; exact fun h => hc3 h.2.2.2
          have hl0 : ((len : Int) == 0) = false := by simp [hc3]
          clear hc3
          go_enter Tryz.func89, Tryz.ntmps89
          go_wp2_with fail
          go_ret
          exact bres_no HF.out hA
      · have HF : Hid (¬ PP) := by rw [← HPP.out]; exact fun h => hc2 h.2.2.1
        have he : s.toList.isEmpty = false := empty_no hc2
        clear hc2
        go_enter Tryz.func89, Tryz.ntmps89
        go_wp2_with fail
        go_ret
        exact bres_no HF.out hA
    · have HF : Hid (¬ PP) := by rw [← HPP.out]; exact fun h => hc1 h.2.1
      have hn0 : (n == 0) = false := by simp [hc1]
      clear hc1
      go_enter Tryz.func89, Tryz.ntmps89
      go_wp2_with fail
      go_ret
      exact bres_no HF.out hA
  · have HF : Hid (¬ PP) := by rw [← HPP.out]; exact fun h => hc0 h.1
    have hk0 : (k == 0) = false := by simp [hc0]
    clear hc0
    go_enter Tryz.func89, Tryz.ntmps89
    go_wp2_with fail
    go_ret
    exact bres_no HF.out hA


theorem implTm_any (d : Nat) (vs : List Value) (t : Tm (d + 1)) (w : World) (hr : TmR d w vs t) (hw : WfTm d t) :
    Calls Tryz.prog 69 #[.agg vs.toArray] w fun e w' => BRes (RightT d t) w e w' := by
  obtain ⟨lv, rfl, h⟩ := hr
  exact termOk_any d t.K t.N t.S lv t.L w h hw.2.2.2 (len_max hw.2.2.1)

/-- A function value that tells whether P holds of a term. -/
def ToldT (d g : Nat) (P : Tm (d + 1) → Prop) : Prop := ∀ (vs : List Value) (t : Tm (d + 1)) (w : World), TmR d w vs t → WfTm d t → Calls Tryz.prog g #[.agg vs.toArray] w fun e w' => BRes (P t) w e w'

theorem enters_wrong : ∀ args w, (callFunc 66 args).run Tryz.prog w = .ok (.enter 66 args) w := enters_of Tryz.func66 (by kernel_rfl) rfl
theorem enters_right1 : ∀ args w, (callFunc 68 args).run Tryz.prog w = .ok (.enter 68 args) w := enters_of Tryz.func68 (by kernel_rfl) rfl

set_option maxRecDepth 100000 in
set_option maxHeartbeats 2000000 in
theorem isWrongSlot_any (d : Nat) : ToldT d 66 fun t => ¬ SlotP d t := by
  intro vs t w hr hw
  obtain ⟨lv, rfl, h⟩ := hr
  obtain ⟨a, c, rfl⟩ := h.len
  obtain ⟨l, hl⟩ : ∃ l, t.L.length = l := ⟨_, rfl⟩
  obtain ⟨W, hW⟩ : ∃ W, W = w.alloc (.cells #[.int .i64 t.K, .int .i64 t.N, .string t.S, .slice a t.L.length c] 66) := ⟨_, rfl⟩
  have hA : Below w.heap.size w W := by rw [hW]; exact (Below.refl _ _).alloc (Nat.le_refl _) _
  have nA : W.heap[w.heap.size]? = some (.cells #[.int .i64 t.K, .int .i64 t.N, .string t.S, .slice a t.L.length c] 66 (0, 0)) := by rw [hW]; exact heap_alloc_new w _
  have HT : Hid (∀ V : World, Below w.heap.size w V → Calls Tryz.prog 69 #[.agg #[.int .i64 t.K, .int .i64 t.N, .string t.S, .slice a t.L.length c]] V fun e w' => BRes (RightT d t) V e w') := fun V hV => implTm_any d _ t V ⟨_, rfl, h.later hV⟩ hw
  have HL : Hid (t.L.length = l) := hl
  have hC := isNothing_any t.K t.N t.S a t.L.length c W (len_max hw.2.2.1) (by exact hw.2.2.2.len)
  rw [hl] at hC nA HT hW ⊢
  rw [hW] at hC
  have HW : Hid (W = _) := hW
  have HB : Hid (Below w.heap.size w W) := hA
  have HN : Hid (W.heap[w.heap.size]? = _) := nA
  obtain ⟨PP, hPP⟩ : ∃ P : Prop, (¬ SlotP d t) = P := ⟨_, rfl⟩
  have HPP : Hid ((¬ SlotP d t) = PP) := hPP
  show Calls Tryz.prog _ _ _ fun e w' => BRes (¬ SlotP d t) w e w'
  rw [hPP]
  obtain ⟨K, hK⟩ : ∃ x, t.K = x := ⟨_, rfl⟩
  obtain ⟨Nn, hNn⟩ : ∃ x, t.N = x := ⟨_, rfl⟩
  obtain ⟨S, hS⟩ : ∃ x, t.S = x := ⟨_, rfl⟩
  have HKS : Hid (t.K = K ∧ t.N = Nn ∧ t.S = S) := ⟨hK, hNn, hS⟩
  rw [hK, hNn, hS] at HN HT hC HW ⊢
  clear h hl hA nA hW hPP hw hK hNn hS
  go_enter Tryz.func66, Tryz.ntmps66
  go_wp2_with fail
  refine hC.mono ?_
  clear hC
  rintro e V ⟨b, rfl, hb, hB⟩
  rw [← HW.out] at hB
  have HBV : Hid (Below w.heap.size w V) := HB.out.trans (hB.mono HB.out.size)
  have nV := (hB.block _ (lt_row HN.out)).trans HN.out
  have x0 : V.cell? ⟨w.heap.size, 0, none⟩ = some (.int .i64 K) := by rw [cell_of_row V _ 0 _ _ _ nV]; rfl
  have x1 : V.cell? ⟨w.heap.size, 1, none⟩ = some (.int .i64 Nn) := by rw [cell_of_row V _ 1 _ _ _ nV]; rfl
  have x2 : V.cell? ⟨w.heap.size, 2, none⟩ = some (.string S) := by rw [cell_of_row V _ 2 _ _ _ nV]; rfl
  have x3 : V.cell? ⟨w.heap.size, 3, none⟩ = some (.slice a l c) := by rw [cell_of_row V _ 3 _ _ _ nV]; rfl
  have hC := HT.out V HBV.out
  have HZ : Hid (b = true ↔ ZeroT t) := by
    show b = true ↔ (t.K = 0 ∧ t.N = 0 ∧ t.S.size = 0 ∧ t.L.length = 0)
    rw [HKS.out.1, HKS.out.2.1, HKS.out.2.2, HL.out]
    exact hb
  clear hb hB nV HN HW HT
  cases b with
  | true =>
    have HF : Hid (¬ PP) := by rw [← HPP.out]; exact fun h => h (.inr (HZ.out.1 rfl))
    clear hC
    go_wp2_with fail
    go_ret
    exact bres_no HF.out HBV.out
  | false =>
    go_wp2_with fail
    refine hC.mono ?_
    clear hC
    rintro e V2 ⟨b2, rfl, hb2, hB2⟩
    have HB2 : Hid (Below w.heap.size w V2) := HBV.out.trans (hB2.mono HBV.out.size)
    have HF : Hid ((!b2) = true ↔ PP) := by
      rw [← HPP.out]
      constructor
      · rintro h (h1 | h1)
        · rw [hb2.2 h1] at h; cases h
        · have := HZ.out.2 h1; cases this
      · intro h
        cases b2 with
        | false => rfl
        | true => exact absurd (.inl (hb2.1 rfl)) h
    clear hb2 hB2
    go_wp2_with fail
    go_ret
    exact ⟨_, rfl, HF.out, HB2.out⟩

set_option maxRecDepth 100000 in
set_option maxHeartbeats 2000000 in
theorem allRight1_any (d : Nat) : ToldT d 68 fun t => ¬ RightT d t := by
  intro vs t w hr hw
  obtain ⟨i0, i1, s2, a3, l3, c3, rfl⟩ := TmR.shape d _ _ _ hr
  obtain ⟨W, hW⟩ : ∃ W, W = w.alloc (.cells #[.int .i64 i0, .int .i64 i1, .string s2, .slice a3 l3 c3] 66) := ⟨_, rfl⟩
  have hA : Below w.heap.size w W := by rw [hW]; exact (Below.refl _ _).alloc (Nat.le_refl _) _
  have hC := implTm_any d _ t W (TmR.lasts d _ _ _ _ hr hA) hw
  rw [hW] at hC
  have HW : Hid (W = _) := hW
  have HB : Hid (Below w.heap.size w W) := hA
  obtain ⟨PP, hPP⟩ : ∃ P : Prop, RightT d t = P := ⟨_, rfl⟩
  show Calls Tryz.prog _ _ _ fun e w' => BRes (¬ RightT d t) w e w'
  rw [hPP] at hC ⊢
  clear hr hA hW hw hPP
  go_enter Tryz.func68, Tryz.ntmps68
  go_wp2_with fail
  refine hC.mono ?_
  clear hC
  rintro e V ⟨b, rfl, hb, hB⟩
  rw [← HW.out] at hB
  have HBV : Hid (Below w.heap.size w V) := HB.out.trans (hB.mono HB.out.size)
  have HF : Hid ((!b) = true ↔ ¬ PP) := by
    cases b
    · exact ⟨(fun _ h => by have := hb.2 h; cases this), fun _ => rfl⟩
    · exact ⟨(fun h => by cases h), fun h => absurd (hb.1 rfl) h⟩
  clear hb hB
  go_wp2_with fail
  go_ret
  exact ⟨_, rfl, HF.out, HBV.out⟩

def IxRes (P : Prop) (w : World) (e : Ending) (w' : World) : Prop := ∃ r : Int, e = .returned (.int .i64 r) ∧ (0 ≤ r ↔ P) ∧ I64 r ∧ Below w.heap.size w w'

set_option maxRecDepth 100000 in
set_option maxHeartbeats 2000000 in
theorem indexTm_any (d g : Nat) (P : Tm (d + 1) → Prop) (eg : ∀ args w, (callFunc g args).run Tryz.prog w = .ok (.enter g args) w) (H : ToldT d g P) (a : Option Addr) (len c : Nat) (m : List (Tm (d + 1))) (w : World) (hr : RdL (d + 1) w (.slice a len c) m) (hw : WfL (d + 1) m) (hl : m.length = len) (hl1 : len ≤ 1048576) :
    Calls Tryz.prog 88 #[.slice a len c, .func (.func g) #[] #[]] w fun e w' => IxRes (∃ (i : Nat) (t : Tm (d + 1)), m[i]? = some t ∧ P t) w e w' := by
  have HE : Hid (RdL (d + 1) w (.slice a len c) m) := hr
  have HL : Hid (m.length = len) := hl
  have HH : Hid (ToldT d g P) := H
  have HWF : Hid (WfL (d + 1) m) := hw
  obtain ⟨PP, hPP⟩ : ∃ Q : Prop, (∃ (i : Nat) (t : Tm (d + 1)), m[i]? = some t ∧ P t) = Q := ⟨_, rfl⟩
  have HPP : Hid ((∃ (i : Nat) (t : Tm (d + 1)), m[i]? = some t ∧ P t) = PP) := hPP
  rw [hPP]
  clear hr hl H hw hPP
  go_enter Tryz.func88, Tryz.ntmps88
  go_wp2_with fail
  go_loopw [5, 8] (fun _ i wr => ∃ k : Nat, k ≤ len ∧ i = .int .i64 k ∧ Hid (Below w.heap.size w wr) ∧ Hid (∀ (j : Nat) (g : Tm (d + 1)), j < k → m[j]? = some g → ¬ P g)) (fun _ i _ => len - (intOf i).toNat)
  case atStart => exact ⟨0, Nat.zero_le _, rfl, Below.refl _ _, fun j g hj => absurd hj (Nat.not_lt_zero _)⟩
  case round =>
    obtain ⟨k, hk, rfl, HB, HN⟩ := hrel
    by_cases hkl : k < len
    · obtain ⟨t, ht⟩ : ∃ t, m[k]? = some t := ⟨_, List.getElem?_eq_getElem (by have := HL.out; omega)⟩
      obtain ⟨b, o, la, ll, lc, rfl, f0, f1, f2, f3, hT⟩ := terms_at (HE.out.later HB.out) k t ht
      have hkl' : (k : Int) < (len : Int) := by omega
      have HT : Hid (m[k]? = some t) := ht
      have hC := HH.out _ t wr hT (wf_term HWF.out ht)
      clear ht hT
      by_cases hpt : P t
      · have HF : Hid PP := by rw [← HPP.out]; exact ⟨k, t, HT.out, hpt⟩
        have HPT : Hid (P t) := hpt
        clear HN hpt
        go_wp2_with (go_at_fn g; refine hC.mono ?_; rintro e w' ⟨b', rfl, hb', hB'⟩; obtain rfl : b' = true := hb'.2 HPT.out; have HB2 : Hid (Below w.heap.size w w') := HB.out.trans (hB'.mono HB.out.size))
        go_ret
        exact ⟨_, rfl, ⟨fun _ => HF.out, fun _ => by omega⟩, ⟨by omega, by omega⟩, by assumption⟩
      · have HF : Hid (∀ (j : Nat) (g : Tm (d + 1)), j < k + 1 → m[j]? = some g → ¬ P g) := fun j y hj hy => by
          rcases Nat.lt_or_ge j k with q | q
          · exact HN.out j y q hy
          · obtain rfl : j = k := by omega
            rw [HT.out] at hy
            cases hy
            exact hpt
        have HPT : Hid (¬ P t) := hpt
        clear HN hpt
        go_wp2_with (go_at_fn g; refine hC.mono ?_; rintro e w' ⟨b', rfl, hb', hB'⟩; obtain rfl : b' = false := (Bool.eq_false_iff.2 fun h => HPT.out (hb'.1 h)); have HB2 : Hid (Below w.heap.size w w') := HB.out.trans (hB'.mono HB.out.size))
        go_roundw
        case rel => exact ⟨k + 1, by omega, by go_num, by assumption, HF⟩
        case measure => simp [intOf]; omega
    · obtain rfl : k = len := by omega
      have hkl' : decide ((k : Int) < (k : Int)) = false := by simp
      have HF : Hid (¬ PP) := by rw [← HPP.out]; rintro ⟨i, t, hi, ht⟩; exact HN.out i t (by have := (List.getElem?_eq_some_iff.1 hi).1; have := HL.out; omega) hi ht
      clear HN
      go_wp2_with fail
      go_ret
      exact ⟨_, rfl, ⟨fun h => by omega, fun h => absurd h HF.out⟩, ⟨by omega, by omega⟩, HB.out⟩

set_option maxRecDepth 100000 in
set_option maxHeartbeats 2000000 in
theorem containsTm_any (d g : Nat) (P : Tm (d + 1) → Prop) (eg : ∀ args w, (callFunc g args).run Tryz.prog w = .ok (.enter g args) w) (H : ToldT d g P) (a : Option Addr) (len c : Nat) (m : List (Tm (d + 1))) (w : World) (hr : RdL (d + 1) w (.slice a len c) m) (hw : WfL (d + 1) m) (hl : m.length = len) (hl1 : len ≤ 1048576) :
    Calls Tryz.prog 65 #[.slice a len c, .func (.func g) #[] #[]] w fun e w' => BRes (∃ (i : Nat) (t : Tm (d + 1)), m[i]? = some t ∧ P t) w e w' := by
  have hC := indexTm_any d g P eg H a len c m w hr hw hl hl1
  obtain ⟨PP, hPP⟩ : ∃ Q : Prop, (∃ (i : Nat) (t : Tm (d + 1)), m[i]? = some t ∧ P t) = Q := ⟨_, rfl⟩
  rw [hPP] at hC ⊢
  clear hr hw hl H hPP eg
  go_enter Tryz.func65, Tryz.ntmps65
  go_wp2_with fail
  refine hC.mono ?_
  clear hC
  rintro e V ⟨r, rfl, hr, _, hB⟩
  have HF : Hid (decide (0 ≤ r) = true ↔ PP) := by show _ ↔ _; rw [decide_eq_true_iff]; exact hr
  clear hr
  go_wp2_with fail
  go_ret
  exact ⟨_, rfl, HF.out, hB⟩

set_option maxRecDepth 100000 in
set_option maxHeartbeats 2000000 in
theorem allRight_any (d : Nat) (a : Option Addr) (len c : Nat) (m : List (Tm (d + 1))) (w : World) (hr : RdL (d + 1) w (.slice a len c) m) (hw : WfL (d + 1) m) (hl : m.length = len) (hl1 : len ≤ 1048576) :
    Calls Tryz.prog 36 #[.slice a len c] w fun e w' => BRes (∀ (i : Nat) (t : Tm (d + 1)), m[i]? = some t → RightT d t) w e w' := by
  have hC := containsTm_any d 68 _ enters_right1 (allRight1_any d) a len c m w hr hw hl hl1
  obtain ⟨PP, hPP⟩ : ∃ Q : Prop, (∃ (i : Nat) (t : Tm (d + 1)), m[i]? = some t ∧ ¬ RightT d t) = Q := ⟨_, rfl⟩
  obtain ⟨QQ, hQQ⟩ : ∃ Q : Prop, (∀ (i : Nat) (t : Tm (d + 1)), m[i]? = some t → RightT d t) = Q := ⟨_, rfl⟩
  have HPQ : Hid (PP ↔ ¬ QQ) := by
    rw [← hPP, ← hQQ]
    constructor
    · rintro ⟨i, t, h1, h2⟩ h3; exact h2 (h3 i t h1)
    · intro h
      exact Classical.byContradiction fun h2 => h fun i t hi => Classical.byContradiction fun h3 => h2 ⟨i, t, hi, h3⟩
  rw [hPP] at hC
  rw [hQQ]
  have hmf : ∀ (fn : Fn) (first cap : Array Value) (w : World), (Instr.makeFunc fn first cap).run Tryz.prog w = .ok (.func fn first cap) w := fun _ _ _ _ => rfl
  clear hr hw hl hPP hQQ
  go_enter Tryz.func36, Tryz.ntmps36
  go_wp2_with fail
  refine hC.mono ?_
  clear hC
  rintro e V ⟨b, rfl, hb, hB⟩
  have HF : Hid ((!b) = true ↔ QQ) := by
    have := HPQ.out
    cases b
    · exact ⟨(fun _ => Classical.byContradiction fun h => by have := hb.2 (this.2 h); cases this), fun _ => rfl⟩
    · exact ⟨(fun h => by cases h), fun h => absurd h (this.1 (hb.1 rfl))⟩
  clear hb
  go_wp2_with fail
  go_ret
  exact ⟨_, rfl, HF.out, hB⟩

end Go.Proofs.YtkkdnkdkelligaaGreatDoor
