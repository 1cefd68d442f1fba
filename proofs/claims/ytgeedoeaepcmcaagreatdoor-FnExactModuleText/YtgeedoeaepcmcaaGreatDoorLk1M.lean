/- When an expression is right in all its storeys; the model's look-up in a list of texts. -/
import Derived.Test.YtgeedoeaepcmcaaGreatDoorFx4M
import Derived.Test.YtgeedoeaepcmcaaGreatDoorXk3M
namespace Go.Proofs.YtgeedoeaepcmcaaGreatDoor
open Go.RowKit
set_option linter.unusedVariables false

/-- How many there are. -/
def cntX : (d : Nat) → Ex d → Nat
  | 0, _ => 0
  | d + 1, e => 1 + (e.E.map (cntX d)).sum + (e.C.map (ClF (cntX d))).sum

/-- Right, no deeper than told; as an expression, or as a pattern (whose own names are asked elsewhere). -/
def GoodX : (d : Nat) → Bool → Int → Ex d → Prop
  | 0, _, _, _ => False
  | d + 1, pat, deep, e => 1 ≤ deep ∧ ShX pat e.K e.N e.S e.E.length e.C.length ∧ (∀ x ∈ e.E, GoodX d pat (deep - 1) x) ∧ (∀ c ∈ e.C, (vars d c.1).Nodup ∧ GoodX d true (deep - 1) c.1 ∧ GoodX d false (deep - 1) c.2)

/-- .. and of no more than are left. -/
def FineX (d : Nat) (pat : Bool) (deep left : Int) (e : Ex d) : Prop := GoodX d pat deep e ∧ (cntX d e : Int) ≤ left

/-- The first j parts are right. -/
def PrE (d : Nat) (pat : Bool) (deep left : Int) (es : List (Ex d)) (j : Nat) : Prop := (∀ x ∈ es.take j, GoodX d pat (deep - 1) x) ∧ ((1 + sumP (cntX d) es j : Nat) : Int) ≤ left
def ClG (d : Nat) (deep : Int) (c : Ex d × Ex d) : Prop := (vars d c.1).Nodup ∧ GoodX d true (deep - 1) c.1 ∧ GoodX d false (deep - 1) c.2
/-- .. and so are the first j clauses. -/
def PrC (d : Nat) (deep left : Int) (m : Nat) (cs : List (Ex d × Ex d)) (j : Nat) : Prop := (∀ c ∈ cs.take j, ClG d deep c) ∧ ((1 + m + sumP (ClF (cntX d)) cs j : Nat) : Int) ≤ left

theorem mem_take_succ {α : Type} {xs : List α} {j : Nat} {x y : α} (h : xs[j]? = some x) (hy : y ∈ xs.take (j + 1)) : y ∈ xs.take j ∨ y = x := by
  have hl := (List.getElem?_eq_some_iff.1 h).1
  rw [List.take_succ_eq_append_getElem hl, (List.getElem?_eq_some_iff.1 h).2] at hy
  simpa using hy
theorem sumP_whole {α : Type} (f : α → Nat) (xs : List α) : sumP f xs xs.length = (xs.map f).sum := by unfold sumP; rw [List.take_length]

theorem PrE.start {d : Nat} {pat : Bool} {deep left : Int} {es : List (Ex d)} (h : 1 ≤ left) : PrE d pat deep left es 0 := ⟨fun x hx => by simp at hx, by show ((1 + 0 : Nat) : Int) ≤ left; omega⟩
theorem PrE.step {d : Nat} {pat : Bool} {deep left : Int} {es : List (Ex d)} {j : Nat} {x : Ex d} (hx : es[j]? = some x) (h : PrE d pat deep left es j) (hf : FineX d pat (deep - 1) (left - 1 - sumP (cntX d) es j) x) : PrE d pat deep left es (j + 1) := by
  have h1 := sumP_succ (cntX d) es j x hx
  obtain ⟨f1, f2⟩ := hf
  refine ⟨fun y hy => ?_, by omega⟩
  rcases mem_take_succ hx hy with h2 | rfl
  · exact h.1 y h2
  · exact f1
theorem PrC.start {d : Nat} {pat : Bool} {deep left : Int} {es : List (Ex d)} {cs : List (Ex d × Ex d)} (h : PrE d pat deep left es es.length) : PrC d deep left (es.map (cntX d)).sum cs 0 := ⟨fun x hx => by simp at hx, by have := h.2; rw [sumP_whole] at this; show ((1 + (es.map (cntX d)).sum + 0 : Nat) : Int) ≤ left; omega⟩
theorem PrC.step {d : Nat} {deep left : Int} {m : Nat} {cs : List (Ex d × Ex d)} {j : Nat} {c : Ex d × Ex d} (hx : cs[j]? = some c) (h : PrC d deep left m cs j) (hn : (vars d c.1).Nodup) (hp : FineX d true (deep - 1) (left - 1 - m - sumP (ClF (cntX d)) cs j) c.1) (hq : FineX d false (deep - 1) (left - 1 - m - sumP (ClF (cntX d)) cs j - cntX d c.1) c.2) : PrC d deep left m cs (j + 1) := by
  have h1 := sumP_succ (ClF (cntX d)) cs j c hx
  have h2 : ClF (cntX d) c = cntX d c.1 + cntX d c.2 := rfl
  obtain ⟨f1, f2⟩ := hp
  obtain ⟨g1, g2⟩ := hq
  refine ⟨fun y hy => ?_, by omega⟩
  rcases mem_take_succ hx hy with h2 | rfl
  · exact h.1 y h2
  · exact ⟨hn, f1, g1⟩
theorem FineX.all {d : Nat} {pat : Bool} {deep left : Int} {e : Ex (d + 1)} (hd : 1 ≤ deep) (hs : ShX pat e.K e.N e.S e.E.length e.C.length) (h : PrE d pat deep left e.E e.E.length) (hc : PrC d deep left (e.E.map (cntX d)).sum e.C e.C.length) : FineX (d + 1) pat deep left e := by
  obtain ⟨h1, h2⟩ := h
  obtain ⟨h3, h4⟩ := hc
  rw [List.take_length] at h1 h3
  rw [sumP_whole] at h4
  exact ⟨⟨hd, hs, h1, h3⟩, h4⟩
theorem FineX.part {d : Nat} {pat : Bool} {deep left : Int} {e : Ex (d + 1)} (h : FineX (d + 1) pat deep left e) {j : Nat} {x : Ex d} (hx : e.E[j]? = some x) : FineX d pat (deep - 1) (left - 1 - sumP (cntX d) e.E j) x := by
  obtain ⟨⟨_, _, h3, _⟩, h5⟩ := h
  have h1 := sumP_succ (cntX d) e.E j x hx
  have h2 := sumP_le (cntX d) e.E (j + 1)
  have h6 : cntX (d + 1) e = 1 + (e.E.map (cntX d)).sum + (e.C.map (ClF (cntX d))).sum := rfl
  exact ⟨h3 x (List.mem_of_getElem? hx), by omega⟩
theorem FineX.clause {d : Nat} {pat : Bool} {deep left : Int} {e : Ex (d + 1)} (h : FineX (d + 1) pat deep left e) {j : Nat} {c : Ex d × Ex d} (hx : e.C[j]? = some c) : (vars d c.1).Nodup ∧ FineX d true (deep - 1) (left - 1 - (e.E.map (cntX d)).sum - sumP (ClF (cntX d)) e.C j) c.1 ∧ FineX d false (deep - 1) (left - 1 - (e.E.map (cntX d)).sum - sumP (ClF (cntX d)) e.C j - cntX d c.1) c.2 := by
  obtain ⟨⟨_, _, _, h4⟩, h5⟩ := h
  have h1 := sumP_succ (ClF (cntX d)) e.C j c hx
  have h2 := sumP_le (ClF (cntX d)) e.C (j + 1)
  have h3 : ClF (cntX d) c = cntX d c.1 + cntX d c.2 := rfl
  have h6 : cntX (d + 1) e = 1 + (e.E.map (cntX d)).sum + (e.C.map (ClF (cntX d))).sum := rfl
  obtain ⟨q1, q2, q3⟩ := h4 c (List.mem_of_getElem? hx)
  exact ⟨q1, ⟨q2, by omega⟩, q3, by omega⟩
theorem cntX_pos : ∀ (d : Nat) (e : Ex (d + 1)), 1 ≤ cntX (d + 1) e := fun d e => by show 1 ≤ 1 + _ + _; omega

/-! A text in a list of texts. -/

theorem str_eq {a b : ByteArray} (h : a.toList = b.toList) : a = b := by
  rw [ByteArray.toList_eq, ByteArray.toList_eq] at h
  exact ByteArray.ext (Array.toList_inj.mp h)

set_option maxHeartbeats 1000000 in
theorem l4Has_any (l : List ByteArray) (s : ByteArray) (a : Option Addr) (n c : Nat) (w : World) (hn : n ≤ l.length) (hm : n ≤ 9223372036854775807) (he : ∀ (i : Nat) (s : ByteArray), l[i]? = some s → ∃ b o, a = some ⟨b, o, none⟩ ∧ w.cell? ⟨b, o + i, none⟩ = some (.string s)) :
    Calls Tryz.prog 81 #[.slice a n c, .string s] w fun r w' => ∃ b : Bool, r = .returned (.bool b) ∧ Hid (b = true ↔ s ∈ l.take n) ∧ w = w' := by
  have HE : Hid (∀ (i : Nat) (s : ByteArray), l[i]? = some s → ∃ b o, a = some ⟨b, o, none⟩ ∧ w.cell? ⟨b, o + i, none⟩ = some (.string s)) := he
  have HN : Hid (n ≤ l.length) := hn
  clear he hn
  go_enter Tryz.func81, Tryz.ntmps81
  go_wp2_with fail
  go_loopw [5] (fun i wr => ∃ k : Nat, k ≤ n ∧ i = .int .i64 k ∧ Hid (s ∉ l.take k) ∧ w = wr) (fun i _ => n - (intOf i).toNat)
  case atStart => exact ⟨0, Nat.zero_le _, rfl, by show s ∉ l.take 0; simp, rfl⟩
  case round =>
    obtain ⟨k, hk, rfl, hno, rfl⟩ := hrel
    by_cases hkl : k < n
    · obtain ⟨t, ht⟩ : ∃ t, l[k]? = some t := ⟨_, List.getElem?_eq_getElem (by have := HN.out; omega)⟩
      obtain ⟨b, o, rfl, f0⟩ := HE.out k t ht
      have hkl' : (k : Int) < (n : Int) := by omega
      by_cases hst : t = s
      · subst hst
        have HY : Hid (t ∈ l.take n) := List.mem_of_getElem? (i := k) (by rw [List.getElem?_take, if_pos hkl]; exact ht)
        clear ht hno
        go_wp2_with fail
        go_ret
        exact ⟨true, rfl, iff_yes HY.out, rfl⟩
      · have hne : (t.toList == s.toList) = false := by simpa using fun e => hst (str_eq e)
        have HNX : Hid (s ∉ l.take (k + 1)) := fun hm => by
          rcases mem_take_succ ht hm with h | h
          · exact hno.out h
          · exact hst h.symm
        clear ht hno hst
        go_wp2_with fail
        go_roundw
        case rel => exact ⟨k + 1, by omega, by go_num, HNX, trivial⟩
        case measure => simp [intOf]; omega
    · obtain rfl : k = n := by omega
      have hkl' : decide ((k : Int) < (k : Int)) = false := by simp
      go_wp2_with fail
      go_ret
      exact ⟨false, rfl, iff_no hno.out, rfl⟩

theorem nodup_take_succ {l : List ByteArray} {k : Nat} {t : ByteArray} (ht : l[k]? = some t) (h : (l.take k).Nodup) (hn : t ∉ l.take k) : (l.take (k + 1)).Nodup := by
  have hl := (List.getElem?_eq_some_iff.1 ht).1
  rw [List.take_succ_eq_append_getElem hl, (List.getElem?_eq_some_iff.1 ht).2, List.nodup_append]
  exact ⟨h, by simp, fun x hx y hy e => by simp at hy; subst hy; subst e; exact hn hx⟩
theorem not_nodup_take {l : List ByteArray} {k : Nat} {t : ByteArray} (ht : l[k]? = some t) (hn : t ∈ l.take k) : ¬ l.Nodup := by
  intro h
  have hl := (List.getElem?_eq_some_iff.1 ht).1
  have h1 : (l.take (k + 1)).Nodup := h.sublist (List.take_sublist _ _)
  rw [List.take_succ_eq_append_getElem hl, (List.getElem?_eq_some_iff.1 ht).2, List.nodup_append] at h1
  exact h1.2.2 t hn t (by simp) rfl

set_option maxHeartbeats 1000000 in
theorem l4Once_any (l : List ByteArray) (v : Value) (w : World) (h : TellS w v l) (hm : l.length ≤ 9223372036854775807) (hc : ∀ a n c, v = .slice a n c → n ≤ c) :
    Calls Tryz.prog 68 #[v] w fun r w' => ∃ b : Bool, r = .returned (.bool b) ∧ Hid (b = true ↔ l.Nodup) ∧ Below w.heap.size w w' := by
  obtain ⟨a, c, rfl, he⟩ := h
  obtain ⟨n, hn⟩ : ∃ n, l.length = n := ⟨_, rfl⟩
  have hnc := hc _ _ _ rfl
  have HE : Hid (∀ (i : Nat) (s : ByteArray), l[i]? = some s → ∃ b o, a = some ⟨b, o, none⟩ ∧ w.cell? ⟨b, o + i, none⟩ = some (.string s)) := he
  have HN : Hid (l.length = n) := hn
  rw [hn] at hm hnc ⊢
  clear he hn hc
  go_enter Tryz.func68, Tryz.ntmps68
  go_wp2_with fail
  go_loopw [3] (fun i wr => ∃ k : Nat, k ≤ n ∧ i = .int .i64 k ∧ Hid ((l.take k).Nodup) ∧ Below w.heap.size w wr) (fun i _ => n - (intOf i).toNat)
  case atStart => exact ⟨0, Nat.zero_le _, rfl, by show (l.take 0).Nodup; simp, Below.refl _ _⟩
  case round =>
    obtain ⟨k, hk, rfl, hno, hb⟩ := hrel
    by_cases hkl : k < n
    · obtain ⟨t, ht⟩ : ∃ t, l[k]? = some t := ⟨_, List.getElem?_eq_getElem (by have := HN.out; omega)⟩
      obtain ⟨b, o, rfl, f0⟩ := HE.out k t ht
      have f1 := cell_later hb f0
      have hkl' : (k : Int) < (n : Int) := by omega
      have HC : Hid (∀ X : World, Below wr.heap.size wr X → Calls Tryz.prog 81 #[.slice (some ⟨b, o, none⟩) k c, .string t] X fun r w' => ∃ b : Bool, r = .returned (.bool b) ∧ Hid (b = true ↔ t ∈ l.take k) ∧ X = w') := fun X hX => l4Has_any l t _ k c X (by have := HN.out; omega) (by omega) fun i s hs => by
        obtain ⟨b', o', e1, e2⟩ := HE.out i s hs
        exact ⟨b', o', e1, cell_later hX (cell_later hb e2)⟩
      have HT : Hid (l[k]? = some t) := ht
      have hlst : Below wr.heap.size wr wr.drew := (Below.refl _ _).drew
      clear ht f0
      go_wp2_with fail
      go_region_with (go_at_call 81; refine (HC.out _ hlst).mono ?_; rintro e V ⟨q, rfl, HQ, rfl⟩)
      all_goals
        have hb2 : Below w.heap.size w wr.drew := hb.trans (hlst.mono hb.size)
        clear f1 HC hlst hb
        cases q
        · have HNX : Hid ((l.take (k + 1)).Nodup) := nodup_take_succ HT.out hno.out fun h => by have := HQ.out.2 h; cases this
          clear hno HQ HT
          go_wp2_with fail
          go_roundw
          case rel => exact ⟨k + 1, by omega, by go_num, HNX, hb2⟩
          case measure => simp [intOf]; omega
        · have HNX : Hid (¬ l.Nodup) := not_nodup_take HT.out (HQ.out.1 rfl)
          clear hno HQ HT
          go_wp2_with fail
          go_ret
          exact ⟨false, rfl, iff_no HNX.out, hb2⟩
    · obtain rfl : k = n := by omega
      have hkl' : decide ((k : Int) < (k : Int)) = false := by simp
      have HY : Hid (l.Nodup) := by have := hno.out; rw [List.take_of_length_le (by have := HN.out; omega)] at this; exact this
      clear hno
      go_wp2_with fail
      go_ret
      exact ⟨true, rfl, iff_yes HY.out, hb⟩

end Go.Proofs.YtgeedoeaepcmcaaGreatDoor

/- The model's look at an expression in all its storeys. -/
namespace Go.Proofs.YtgeedoeaepcmcaaGreatDoor
open Go.RowKit
set_option linter.unusedVariables false

def LkC (d : Nat) : Prop := ∀ (vs : List Value) (e : Ex d) (pat : Bool) (deep left : Int) (w : World), ExR d w vs e → szX d e ≤ 1048576 → -1000 ≤ deep → deep ≤ 1000 → -1000 ≤ left → left ≤ 1000000 →
  Calls Tryz.prog 54 #[.agg vs.toArray, .bool pat, .int .i64 deep, .int .i64 left] w fun r w' => ∃ y : Int, r = .returned (.int .i64 y) ∧ Hid ((FineX d pat deep left e ∧ y = left - cntX d e) ∨ (¬ FineX d pat deep left e ∧ y = -1)) ∧ Below w.heap.size w w'

set_option maxHeartbeats 1000000 in
theorem specLook4_no (pat : Bool) (k n : Int) (s : ByteArray) (a3 : Option Addr) (e c3 : Nat) (a4 : Option Addr) (c c4 : Nat) (deep left : Int) (w : World) (hs : s.size ≤ 9223372036854775807) (he : e ≤ 9223372036854775807) (hc : c ≤ 9223372036854775807) (h : deep < 1 ∨ left < 1 ∨ ¬ ShX pat k n s e c) :
    Calls Tryz.prog 54 #[.agg #[.int .i64 k, .int .i64 n, .string s, .slice a3 e c3, .slice a4 c c4], .bool pat, .int .i64 deep, .int .i64 left] w fun r w' => r = .returned (.int .i64 (-1)) ∧ Below w.heap.size w w' := by
  obtain ⟨W, hW⟩ : ∃ W, W = w.alloc (.cells #[.int .i64 k, .int .i64 n, .string s, .slice a3 e c3, .slice a4 c c4] 39) := ⟨_, rfl⟩
  have hA : Below w.heap.size w W := by rw [hW]; exact (Below.refl _ _).alloc (Nat.le_refl _) _
  by_cases h1 : deep < 1
  · rw [hW] at hA
    clear hW h
    go_enter Tryz.func54, Tryz.ntmps54
    go_wp2_with fail
    go_ret
    exact ⟨rfl, hA⟩
  · by_cases h2 : left < 1
    · rw [hW] at hA
      clear hW h
      go_enter Tryz.func54, Tryz.ntmps54
      go_wp2_with fail
      go_ret
      exact ⟨rfl, hA⟩
    · have h3 : Hid (¬ ShX pat k n s e c) := by rcases h with h | h | h; exact absurd h h1; exact absurd h h2; exact h
      have hC := specFit_any pat k n s a3 e c3 a4 c c4 W hs he hc
      rw [hW] at hC
      have HW : Hid (W = _) := hW
      clear h hW
      go_enter Tryz.func54, Tryz.ntmps54
      go_wp2_with fail
      refine hC.mono ?_
      clear hC
      rintro e w1 ⟨b, rfl, hb, hB⟩
      rw [← HW.out] at hB
      have hb2 : Below w.heap.size w w1 := hA.trans (hB.mono hA.size)
      have : b = false := by cases b; rfl; exact absurd (hb.out.1 rfl) h3.out
      subst this
      clear hb hB hA HW h3
      go_wp2_with fail
      go_ret
      exact ⟨rfl, hb2⟩

theorem row_cap {w : World} {B g n c : Nat} {l : List ByteArray} (h : StrRow w B (.slice (some ⟨g, 0, none⟩) n c) l) : n ≤ c := by
  rcases h.2 with ⟨e, _⟩ | ⟨g', cap, cur, e, _, hg, h1, _⟩
  · cases e
  · simp only [Value.slice.injEq, Option.some.injEq, Addr.mk.injEq, and_true] at e
    obtain ⟨rfl, rfl, rfl⟩ := e
    exact h1

/-- All parts and the first j clauses are right. -/
def PrB (d : Nat) (pat : Bool) (deep left : Int) (es : List (Ex d)) (len m : Nat) (cs : List (Ex d × Ex d)) (j : Nat) : Prop := PrE d pat deep left es len ∧ PrC d deep left m cs j

set_option maxRecDepth 100000 in
set_option maxHeartbeats 4000000 in
theorem specLook4_of (d : Nat) (H : LkC d) : LkC (d + 1) := by
  rintro vs x pat deep left w ⟨ve, vc, rfl, h1, h2⟩ hz hd0 hd1 hl0 hl1
  have hz' : x.S.size + szRow (szX d) x.E + szRow (ClF (szX d)) x.C ≤ 1048576 := hz
  obtain ⟨a3, c3, rfl, hel⟩ := h1
  obtain ⟨a4, c4, rfl, hcl⟩ := h2
  have HE : Hid (∀ (i : Nat) (e : Ex d), x.E[i]? = some e → ∃ b o vs, a3 = some ⟨b, o, none⟩ ∧ vs.length = 5 ∧ (∀ (j : Nat) (u : Value), vs[j]? = some u → w.cell? ⟨b, o + i * 5 + j, none⟩ = some u) ∧ ExR d w vs e) := hel
  have HCL : Hid (∀ (i : Nat) (e : Ex d × Ex d), x.C[i]? = some e → ∃ b o vs, a4 = some ⟨b, o, none⟩ ∧ vs.length = 10 ∧ (∀ (j : Nat) (u : Value), vs[j]? = some u → w.cell? ⟨b, o + i * 10 + j, none⟩ = some u) ∧ ClR (ExR d) w vs e) := hcl
  have hsE := sumP_all (szX d) x.E
  have hsC := sumP_all (ClF (szX d)) x.C
  by_cases h : deep < 1 ∨ left < 1 ∨ ¬ ShX pat x.K x.N x.S x.E.length x.C.length
  · refine (specLook4_no pat x.K x.N x.S a3 _ c3 a4 _ c4 deep left w (by omega) (by omega) (by omega) h).mono ?_
    rintro e w' ⟨rfl, hb⟩
    refine ⟨-1, rfl, .inr ⟨fun hR => ?_, rfl⟩, hb⟩
    obtain ⟨⟨r1, r2, _⟩, r4⟩ := hR
    have := cntX_pos d x
    rcases h with h | h | h
    · omega
    · omega
    · exact h r2
  have h1 : ¬ deep < 1 := fun e => h (.inl e)
  have h2 : ¬ left < 1 := fun e => h (.inr (.inl e))
  have H3 : Hid (ShX pat x.K x.N x.S x.E.length x.C.length) := Classical.byContradiction fun e => h (.inr (.inr e))
  have HFA : Hid (∀ y, PrE d pat deep left x.E x.E.length → PrC d deep left (x.E.map (cntX d)).sum x.C x.C.length → y = left - 1 - (x.E.map (cntX d)).sum - sumP (ClF (cntX d)) x.C x.C.length → FineX (d + 1) pat deep left x ∧ y = left - cntX (d + 1) x) := fun y q1 q2 q3 => by
    refine ⟨FineX.all (by omega) H3.out q1 q2, ?_⟩
    rw [sumP_whole] at q3
    have : cntX (d + 1) x = 1 + (x.E.map (cntX d)).sum + (x.C.map (ClF (cntX d))).sum := rfl
    omega
  have HPA : Hid (∀ (j : Nat) (e : Ex d), x.E[j]? = some e → FineX (d + 1) pat deep left x → FineX d pat (deep - 1) (left - 1 - sumP (cntX d) x.E j) e) := fun j e he hf => hf.part he
  have HPC : Hid (∀ (j : Nat) (c : Ex d × Ex d), x.C[j]? = some c → FineX (d + 1) pat deep left x → (vars d c.1).Nodup ∧ FineX d true (deep - 1) (left - 1 - (x.E.map (cntX d)).sum - sumP (ClF (cntX d)) x.C j) c.1 ∧ FineX d false (deep - 1) (left - 1 - (x.E.map (cntX d)).sum - sumP (ClF (cntX d)) x.C j - cntX d c.1) c.2) := fun j c hc hf => hf.clause hc
  obtain ⟨FN, hFN⟩ : ∃ F : Prop, FineX (d + 1) pat deep left x = F := ⟨_, rfl⟩
  obtain ⟨CN, hCN⟩ : ∃ F : Nat, cntX (d + 1) x = F := ⟨_, rfl⟩
  rw [hFN] at HPA HPC
  rw [hFN, hCN] at HFA
  rw [hFN, hCN]
  have HZE : Hid (szRow (szX d) x.E ≤ 1048576) := by show _ ≤ _; omega
  have HZC : Hid (szRow (ClF (szX d)) x.C ≤ 1048576) := by show _ ≤ _; omega
  obtain ⟨ES, hES⟩ : ∃ l, x.E = l := ⟨_, rfl⟩
  obtain ⟨CS, hCS⟩ : ∃ l, x.C = l := ⟨_, rfl⟩
  obtain ⟨K, hK⟩ : ∃ K, x.K = K := ⟨_, rfl⟩
  obtain ⟨N, hN⟩ : ∃ N, x.N = N := ⟨_, rfl⟩
  obtain ⟨S, hS⟩ : ∃ S, x.S = S := ⟨_, rfl⟩
  rw [hES] at HE HFA HPA HPC HZE hsE
  rw [hCS] at HCL HFA HPC HZC hsC
  rw [hK, hN, hS, hES, hCS] at H3
  rw [hK, hN, hS, hES, hCS]
  rw [hES, hCS, hS] at hz'
  have hs0 : S.size ≤ 9223372036854775807 := by omega
  have hlE : ES.length ≤ 1048576 := by omega
  have hlC : CS.length ≤ 1048576 := by omega
  clear hK hN hS hES hCS hFN hCN hz hz' hel hcl hsE hsC h
  obtain ⟨len, hl⟩ : ∃ l, ES.length = l := ⟨_, rfl⟩
  obtain ⟨l4, hl4⟩ : ∃ l, CS.length = l := ⟨_, rfl⟩
  have HL : Hid (ES.length = len) := hl
  have HL4 : Hid (CS.length = l4) := hl4
  obtain ⟨M, hM⟩ : ∃ m, (ES.map (cntX d)).sum = m := ⟨_, rfl⟩
  have HM : Hid ((ES.map (cntX d)).sum = M) := hM
  rw [hl, hl4, hM] at HFA
  rw [hM] at HPC
  rw [hl, hl4] at H3
  rw [hl] at hlE ⊢
  rw [hl4] at hlC ⊢
  clear hl hl4 hM
  obtain ⟨W, hW⟩ : ∃ W, W = w.alloc (.cells #[.int .i64 K, .int .i64 N, .string S, .slice a3 len c3, .slice a4 l4 c4] 39) := ⟨_, rfl⟩
  have hA : Below w.heap.size w W := by rw [hW]; exact (Below.refl _ _).alloc (Nat.le_refl _) _
  have hWz : W.heap.size = w.heap.size + 1 := by rw [hW]; simp
  have hB1 : W.heap[w.heap.size]? = some (.cells #[.int .i64 K, .int .i64 N, .string S, .slice a3 len c3, .slice a4 l4 c4] 39 (0, 0)) := by rw [hW]; exact heap_alloc_new w _
  have hC := specFit_any pat K N S a3 len c3 a4 l4 c4 W hs0 (by omega) (by omega)
  rw [hW] at hC
  have HW : Hid (W = _) := hW
  have HI : Hid (LkC d) := H
  clear hW H
  go_enter Tryz.func54, Tryz.ntmps54
  go_wp2_with fail
  refine hC.mono ?_
  clear hC
  rintro e w1 ⟨b, rfl, hb, hB⟩
  rw [← HW.out] at hB
  have : b = true := hb.out.2 H3.out
  subst this
  have HB1 : Hid (w1.heap[w.heap.size]? = _) := (hB.block _ (by omega)).trans hB1
  have HBW : Hid (Below w.heap.size w w1 ∧ w.heap.size < w1.heap.size) := ⟨hA.trans (hB.mono hA.size), by have := hB.size; omega⟩
  clear hb hB hA HW hB1 hWz
  go_wp2_with fail
  go_loopw [3, 9] (fun x3 i wr => ∃ (j : Nat) (y : Int), j ≤ len ∧ i = .int .i64 j ∧ x3 = .int .i64 y ∧ Hid (Below w1.heap.size w1 wr) ∧ Hid ((PrE d pat deep left ES j ∧ y = left - 1 - sumP (cntX d) ES j) ∨ (¬ FN ∧ y = -1))) (fun _ i _ => len - (intOf i).toNat)
  case atStart => exact ⟨0, _, Nat.zero_le _, rfl, rfl, Below.refl _ _, .inl ⟨PrE.start (by omega), by show left - 1 = left - 1 - ((0 : Nat) : Int); omega⟩⟩
  case round =>
    obtain ⟨j, y, hj, rfl, rfl, hb, HS⟩ := hrel
    have hbw : Below w.heap.size w wr := HBW.out.1.trans (hb.out.mono HBW.out.1.size)
    have hrow := (hb.out.block _ HBW.out.2).trans HB1.out
    have b3 : wr.cell? ⟨w.heap.size, 3, none⟩ = some (.slice a3 len c3) := by rw [cell_of_row wr _ 3 _ _ _ hrow]; rfl
    by_cases hgo : j < len ∧ 0 ≤ y
    · obtain ⟨hjl, hy0⟩ := hgo
      obtain ⟨hP, hy⟩ : PrE d pat deep left ES j ∧ y = left - 1 - sumP (cntX d) ES j := by
        rcases HS.out with h | ⟨_, h⟩
        · exact h
        · omega
      have hy1 : y ≤ 1000000 := by omega
      obtain ⟨t, ht⟩ : ∃ t, ES[j]? = some t := ⟨_, List.getElem?_eq_getElem (by rw [HL.out]; exact hjl)⟩
      obtain ⟨b, o, vs, rfl, hvl, hcell, hre⟩ := HE.out j t ht
      obtain ⟨y0, y1, y2, ya3, yl3, yc3, ya4, yl4, yc4, rfl⟩ := ExR.shape _ _ _ _ hre
      have f0 : wr.cell? ⟨b, o + j * 5, none⟩ = some _ := cell_later hbw (hcell 0 _ rfl)
      have f1 : wr.cell? ⟨b, o + j * 5 + 1, none⟩ = some _ := cell_later hbw (hcell 1 _ rfl)
      have f2 : wr.cell? ⟨b, o + j * 5 + 2, none⟩ = some _ := cell_later hbw (hcell 2 _ rfl)
      have f3 : wr.cell? ⟨b, o + j * 5 + 3, none⟩ = some _ := cell_later hbw (hcell 3 _ rfl)
      have f4 : wr.cell? ⟨b, o + j * 5 + 4, none⟩ = some _ := cell_later hbw (hcell 4 _ rfl)
      have hC := HI.out _ t pat (deep - 1) y wr (ExR.lasts d _ _ _ _ hre hbw) (Nat.le_trans (szRow_mem ht) HZE.out) (by omega) (by omega) (by omega) (by omega)
      have HNX : Hid (∀ r : Int, ((FineX d pat (deep - 1) y t ∧ r = y - cntX d t) ∨ (¬ FineX d pat (deep - 1) y t ∧ r = -1)) → (PrE d pat deep left ES (j + 1) ∧ r = left - 1 - sumP (cntX d) ES (j + 1)) ∨ (¬ FN ∧ r = -1)) := fun r hr => by
        have hstep := sumP_succ (cntX d) ES j t ht
        rcases hr with ⟨r1, r2⟩ | ⟨r1, r2⟩
        · rw [hy] at r1
          exact .inl ⟨hP.step ht r1, by omega⟩
        · exact .inr ⟨fun hR => r1 (by rw [hy]; exact HPA.out j t ht hR), r2⟩
      have hjl' : (j : Int) < (len : Int) := by omega
      clear hcell hre hvl hrow hP hy HS ht hbw
      go_wp2_with fail
      refine hC.mono ?_
      clear hC
      rintro e V ⟨r, rfl, hr, hB⟩
      have HR2 : Hid _ := HNX.out r hr.out
      have hb2 : Hid (Below w1.heap.size w1 V) := hb.out.trans (hB.mono hb.out.size)
      clear hb hB f0 f1 f2 f3 f4 b3 hr HNX
      go_wp2_with fail
      go_roundw
      case rel => exact ⟨j + 1, r, by omega, by go_num, rfl, hb2, HR2⟩
      case measure => simp [intOf]; omega
    · have HEL : Hid ((PrE d pat deep left ES len ∧ y = left - 1 - M) ∨ (¬ FN ∧ y = -1)) := by
        rcases HS.out with ⟨h, hy⟩ | h
        · have hy0 : 0 ≤ y := by have := h.2; omega
          obtain rfl : j = len := by omega
          refine .inl ⟨h, ?_⟩
          rw [← HL.out, sumP_whole, HM.out] at hy
          exact hy
        · exact .inr h
      have HST : Hid ((PrB d pat deep left ES len M CS 0 ∧ y = left - 1 - M - sumP (ClF (cntX d)) CS 0) ∨ (¬ FN ∧ y = -1)) := by
        rcases HEL.out with ⟨h, hy⟩ | h
        · refine .inl ⟨⟨h, ?_⟩, by show y = left - 1 - M - ((0 : Nat) : Int); omega⟩
          rw [← HM.out]
          rw [← HL.out] at h
          exact PrC.start h
        · exact .inr h
      clear HEL HS HPA HE
      rcases Nat.lt_or_ge j len with hjl | hjl
      · have hy : y < 0 := by omega
        have hjl' : (j : Int) < (len : Int) := by omega
        clear hgo
        go_wp2_with fail
        clear b3 hjl hjl' hj
        go_loopw [3, 10] (fun x3 i wr => ∃ (j : Nat) (y : Int), j ≤ l4 ∧ i = .int .i64 j ∧ x3 = .int .i64 y ∧ Hid (Below w1.heap.size w1 wr) ∧ Hid ((PrB d pat deep left ES len M CS j ∧ y = left - 1 - M - sumP (ClF (cntX d)) CS j) ∨ (¬ FN ∧ y = -1))) (fun _ i _ => l4 - (intOf i).toNat)
        case atStart => exact ⟨0, y, Nat.zero_le _, rfl, rfl, hb, HST⟩
        case round =>
          clear hbw hrow HST
          obtain ⟨j, y, hj, rfl, rfl, hb, HS⟩ := hrel
          rename World => wr
          have hbw : Below w.heap.size w wr := HBW.out.1.trans (hb.out.mono HBW.out.1.size)
          have hrow := (hb.out.block _ HBW.out.2).trans HB1.out
          have b4 : wr.cell? ⟨w.heap.size, 4, none⟩ = some (.slice a4 l4 c4) := by rw [cell_of_row wr _ 4 _ _ _ hrow]; rfl
          by_cases hgo : j < l4 ∧ 0 ≤ y
          · obtain ⟨hjl, hy0⟩ := hgo
            obtain ⟨hP, hy⟩ : PrB d pat deep left ES len M CS j ∧ y = left - 1 - M - sumP (ClF (cntX d)) CS j := by
              rcases HS.out with h | ⟨_, h⟩
              · exact h
              · omega
            have hy1 : y ≤ 1000000 := by omega
            obtain ⟨⟨t, u⟩, ht⟩ : ∃ t, CS[j]? = some t := ⟨_, List.getElem?_eq_getElem (by rw [HL4.out]; exact hjl)⟩
            obtain ⟨b, o, vs, rfl, hvl, hcell, p, q, rfl, hre, hru⟩ := HCL.out j (t, u) ht
            obtain ⟨y0, y1, y2, ya3, yl3, yc3, ya4, yl4, yc4, rfl⟩ := ExR.shape _ _ _ _ hre
            obtain ⟨z0, z1, z2, za3, zl3, zc3, za4, zl4, zc4, rfl⟩ := ExR.shape _ _ _ _ hru
            have f0 : wr.cell? ⟨b, o + j * 10, none⟩ = some _ := cell_later hbw (hcell 0 _ rfl)
            have f1 : wr.cell? ⟨b, o + j * 10 + 1, none⟩ = some _ := cell_later hbw (hcell 1 _ rfl)
            have f2 : wr.cell? ⟨b, o + j * 10 + 2, none⟩ = some _ := cell_later hbw (hcell 2 _ rfl)
            have f3 : wr.cell? ⟨b, o + j * 10 + 3, none⟩ = some _ := cell_later hbw (hcell 3 _ rfl)
            have f4 : wr.cell? ⟨b, o + j * 10 + 4, none⟩ = some _ := cell_later hbw (hcell 4 _ rfl)
            have HZP : Hid (szX d t ≤ 1048576 ∧ szX d u ≤ 1048576) := by
              have h5 : ClF (szX d) (t, u) ≤ 1048576 := Nat.le_trans (szRow_mem ht) HZC.out
              have h6 : ClF (szX d) (t, u) = szX d t + szX d u := rfl
              exact ⟨by omega, by omega⟩
            have hV := specVars_any d _ t wr (ExR.lasts d _ _ _ _ hre hbw) HZP.out.1
            have HCE : Hid _ := hcell
            have HRE : Hid (ExR d w _ t ∧ ExR d w _ u) := ⟨hre, hru⟩
            have HT : Hid (CS[j]? = some (t, u)) := ht
            have HPY : Hid (PrB d pat deep left ES len M CS j ∧ y = left - 1 - M - sumP (ClF (cntX d)) CS j) := ⟨hP, hy⟩
            have hjl' : (j : Int) < (l4 : Int) := by omega
            clear hcell hre hru hvl hrow hP hy HS ht
            go_wp2_with fail
            refine hV.mono ?_
            clear hV f0 f1 f2 f3 f4 b4
            rintro e w2 ⟨g, m, c, rfl, HRW, hB2⟩
            have hO := l4Once_any (vars d t) _ w2 HRW.out.tellS (by have := vars_len d t; have := HZP.out; omega) (fun a n' c' e => by
              simp only [Value.slice.injEq] at e
              obtain ⟨rfl, rfl, rfl⟩ := e
              exact row_cap HRW.out)
            have hb3 : Below w1.heap.size w1 w2 := hb.out.trans (hB2.mono hb.out.size)
            clear HRW hB2 hb hbw
            go_wp2_with fail
            refine hO.mono ?_
            clear hO
            rintro e w3 ⟨bo, rfl, HB, hB3⟩
            have hb4 : Below w1.heap.size w1 w3 := hb3.trans (hB3.mono hb3.size)
            clear hB3 hb3
            cases bo
            · have HR : Hid (¬ FN) := fun hR => by have := HB.out.2 (HPC.out j _ HT.out hR).1; cases this
              have hb5 : Below w.heap.size w w3 := HBW.out.1.trans (hb4.mono HBW.out.1.size)
              clear HB hb4 HPC HFA
              go_wp2_with fail
              go_ret
              exact ⟨-1, rfl, .inr ⟨HR.out, rfl⟩, hb5⟩
            · have hbw3 : Below w.heap.size w w3 := HBW.out.1.trans (hb4.mono HBW.out.1.size)
              have hrow := (hb4.block _ HBW.out.2).trans HB1.out
              have b4 : w3.cell? ⟨w.heap.size, 4, none⟩ = some (.slice (some ⟨b, o, none⟩) l4 c4) := by rw [cell_of_row w3 _ 4 _ _ _ hrow]; rfl
              have f0 : w3.cell? ⟨b, o + j * 10, none⟩ = some _ := cell_later hbw3 (HCE.out 0 _ rfl)
              have f1 : w3.cell? ⟨b, o + j * 10 + 1, none⟩ = some _ := cell_later hbw3 (HCE.out 1 _ rfl)
              have f2 : w3.cell? ⟨b, o + j * 10 + 2, none⟩ = some _ := cell_later hbw3 (HCE.out 2 _ rfl)
              have f3 : w3.cell? ⟨b, o + j * 10 + 3, none⟩ = some _ := cell_later hbw3 (HCE.out 3 _ rfl)
              have f4 : w3.cell? ⟨b, o + j * 10 + 4, none⟩ = some _ := cell_later hbw3 (HCE.out 4 _ rfl)
              have hP1 := HI.out _ t true (deep - 1) y w3 (ExR.lasts d _ _ _ _ HRE.out.1 hbw3) HZP.out.1 (by omega) (by omega) (by omega) (by omega)
              have HND : Hid ((vars d t).Nodup) := HB.out.1 rfl
              clear hrow HB
              go_wp2_with fail
              refine hP1.mono ?_
              clear hP1 f0 f1 f2 f3 f4 b4
              rintro e w4 ⟨r, rfl, hr, hB4⟩
              have hb5 : Below w1.heap.size w1 w4 := hb4.trans (hB4.mono hb4.size)
              clear hB4 hb4 hbw3
              rcases hr.out with ⟨r1, r2⟩ | ⟨r1, r2⟩
              · have hr0 : 0 ≤ r := by have := r1.2; omega
                have hr1 : r ≤ 1000000 := by omega
                have HP1 : Hid (FineX d true (deep - 1) y t ∧ r = y - cntX d t) := ⟨r1, r2⟩
                have hbw4 : Below w.heap.size w w4 := HBW.out.1.trans (hb5.mono HBW.out.1.size)
                have hrow := (hb5.block _ HBW.out.2).trans HB1.out
                have b4 : w4.cell? ⟨w.heap.size, 4, none⟩ = some (.slice (some ⟨b, o, none⟩) l4 c4) := by rw [cell_of_row w4 _ 4 _ _ _ hrow]; rfl
                have f0 : w4.cell? ⟨b, o + j * 10 + 5, none⟩ = some _ := cell_later hbw4 (HCE.out 5 _ rfl)
                have f1 : w4.cell? ⟨b, o + j * 10 + 6, none⟩ = some _ := cell_later hbw4 (HCE.out 6 _ rfl)
                have f2 : w4.cell? ⟨b, o + j * 10 + 7, none⟩ = some _ := cell_later hbw4 (HCE.out 7 _ rfl)
                have f3 : w4.cell? ⟨b, o + j * 10 + 8, none⟩ = some _ := cell_later hbw4 (HCE.out 8 _ rfl)
                have f4 : w4.cell? ⟨b, o + j * 10 + 9, none⟩ = some _ := cell_later hbw4 (HCE.out 9 _ rfl)
                have hP2 := HI.out _ u false (deep - 1) r w4 (ExR.lasts d _ _ _ _ HRE.out.2 hbw4) HZP.out.2 (by omega) (by omega) (by omega) (by omega)
                clear hrow r1 r2 hr
                go_wp2_with fail
                refine hP2.mono ?_
                clear hP2 f0 f1 f2 f3 f4 b4
                rintro e w5 ⟨r5, rfl, hr5, hB5⟩
                have hb6 : Hid (Below w1.heap.size w1 w5) := hb5.trans (hB5.mono hb5.size)
                have HR2 : Hid ((PrB d pat deep left ES len M CS (j + 1) ∧ r5 = left - 1 - M - sumP (ClF (cntX d)) CS (j + 1)) ∨ (¬ FN ∧ r5 = -1)) := by
                  have hstep := sumP_succ (ClF (cntX d)) CS j _ HT.out
                  have hcf : ClF (cntX d) (t, u) = cntX d t + cntX d u := rfl
                  obtain ⟨p1, p2⟩ := HPY.out
                  obtain ⟨s1, s2⟩ := HP1.out
                  rcases hr5.out with ⟨r1, r2⟩ | ⟨r1, r2⟩
                  · rw [s2] at r1
                    rw [p2] at s1 r1
                    exact .inl ⟨⟨p1.1, p1.2.step HT.out HND.out s1 r1⟩, by omega⟩
                  · refine .inr ⟨fun hR => r1 ?_, r2⟩
                    have := (HPC.out j _ HT.out hR).2.2
                    rw [s2, p2]
                    exact this
                clear hB5 hb5 hbw4 hr5 HP1 HPY HND
                go_wp2_with fail
                go_roundw
                case rel => exact ⟨j + 1, r5, by omega, by go_num, rfl, hb6, HR2⟩
                case measure => simp [intOf]; omega
              · have HR2 : Hid ((PrB d pat deep left ES len M CS (j + 1) ∧ r = left - 1 - M - sumP (ClF (cntX d)) CS (j + 1)) ∨ (¬ FN ∧ r = -1)) := by
                  refine .inr ⟨fun hR => r1 ?_, r2⟩
                  have := (HPC.out j _ HT.out hR).2.1
                  rw [HPY.out.2]
                  exact this
                have hb6 : Hid (Below w1.heap.size w1 w4) := hb5
                have hrn : r < 0 := by omega
                clear hb5 hr r1 r2 HPY HND
                go_wp2_with fail
                go_roundw
                case rel => exact ⟨j + 1, r, by omega, by go_num, rfl, hb6, HR2⟩
                case measure => simp [intOf]; omega
          · have HR : Hid ((FN ∧ y = left - CN) ∨ (¬ FN ∧ y = -1)) := by
              rcases HS.out with ⟨h, hy⟩ | h
              · have hy0 : 0 ≤ y := by have := h.2.2; omega
                obtain rfl : j = l4 := by omega
                exact .inl (HFA.out y h.1 h.2 hy)
              · exact .inr h
            clear HS hrow
            rcases Nat.lt_or_ge j l4 with hjl | hjl
            · have hy : y < 0 := by omega
              have hjl' : (j : Int) < (l4 : Int) := by omega
              clear hgo
              go_wp2_with fail
              go_ret
              exact ⟨y, rfl, HR, hbw⟩
            · have hjl' : decide ((j : Int) < (l4 : Int)) = false := by simp; omega
              clear hgo
              go_wp2_with fail
              go_ret
              exact ⟨y, rfl, HR, hbw⟩
      · have hjl' : decide ((j : Int) < (len : Int)) = false := by simp; omega
        clear hgo
        go_wp2_with fail
        clear b3 hjl hjl' hj
        go_loopw [3, 10] (fun x3 i wr => ∃ (j : Nat) (y : Int), j ≤ l4 ∧ i = .int .i64 j ∧ x3 = .int .i64 y ∧ Hid (Below w1.heap.size w1 wr) ∧ Hid ((PrB d pat deep left ES len M CS j ∧ y = left - 1 - M - sumP (ClF (cntX d)) CS j) ∨ (¬ FN ∧ y = -1))) (fun _ i _ => l4 - (intOf i).toNat)
        case atStart => exact ⟨0, y, Nat.zero_le _, rfl, rfl, hb, HST⟩
        case round =>
          clear hbw hrow HST
          obtain ⟨j, y, hj, rfl, rfl, hb, HS⟩ := hrel
          rename World => wr
          have hbw : Below w.heap.size w wr := HBW.out.1.trans (hb.out.mono HBW.out.1.size)
          have hrow := (hb.out.block _ HBW.out.2).trans HB1.out
          have b4 : wr.cell? ⟨w.heap.size, 4, none⟩ = some (.slice a4 l4 c4) := by rw [cell_of_row wr _ 4 _ _ _ hrow]; rfl
          by_cases hgo : j < l4 ∧ 0 ≤ y
          · obtain ⟨hjl, hy0⟩ := hgo
            obtain ⟨hP, hy⟩ : PrB d pat deep left ES len M CS j ∧ y = left - 1 - M - sumP (ClF (cntX d)) CS j := by
              rcases HS.out with h | ⟨_, h⟩
              · exact h
              · omega
            have hy1 : y ≤ 1000000 := by omega
            obtain ⟨⟨t, u⟩, ht⟩ : ∃ t, CS[j]? = some t := ⟨_, List.getElem?_eq_getElem (by rw [HL4.out]; exact hjl)⟩
            obtain ⟨b, o, vs, rfl, hvl, hcell, p, q, rfl, hre, hru⟩ := HCL.out j (t, u) ht
            obtain ⟨y0, y1, y2, ya3, yl3, yc3, ya4, yl4, yc4, rfl⟩ := ExR.shape _ _ _ _ hre
            obtain ⟨z0, z1, z2, za3, zl3, zc3, za4, zl4, zc4, rfl⟩ := ExR.shape _ _ _ _ hru
            have f0 : wr.cell? ⟨b, o + j * 10, none⟩ = some _ := cell_later hbw (hcell 0 _ rfl)
            have f1 : wr.cell? ⟨b, o + j * 10 + 1, none⟩ = some _ := cell_later hbw (hcell 1 _ rfl)
            have f2 : wr.cell? ⟨b, o + j * 10 + 2, none⟩ = some _ := cell_later hbw (hcell 2 _ rfl)
            have f3 : wr.cell? ⟨b, o + j * 10 + 3, none⟩ = some _ := cell_later hbw (hcell 3 _ rfl)
            have f4 : wr.cell? ⟨b, o + j * 10 + 4, none⟩ = some _ := cell_later hbw (hcell 4 _ rfl)
            have HZP : Hid (szX d t ≤ 1048576 ∧ szX d u ≤ 1048576) := by
              have h5 : ClF (szX d) (t, u) ≤ 1048576 := Nat.le_trans (szRow_mem ht) HZC.out
              have h6 : ClF (szX d) (t, u) = szX d t + szX d u := rfl
              exact ⟨by omega, by omega⟩
            have hV := specVars_any d _ t wr (ExR.lasts d _ _ _ _ hre hbw) HZP.out.1
            have HCE : Hid _ := hcell
            have HRE : Hid (ExR d w _ t ∧ ExR d w _ u) := ⟨hre, hru⟩
            have HT : Hid (CS[j]? = some (t, u)) := ht
            have HPY : Hid (PrB d pat deep left ES len M CS j ∧ y = left - 1 - M - sumP (ClF (cntX d)) CS j) := ⟨hP, hy⟩
            have hjl' : (j : Int) < (l4 : Int) := by omega
            clear hcell hre hru hvl hrow hP hy HS ht
            go_wp2_with fail
            refine hV.mono ?_
            clear hV f0 f1 f2 f3 f4 b4
            rintro e w2 ⟨g, m, c, rfl, HRW, hB2⟩
            have hO := l4Once_any (vars d t) _ w2 HRW.out.tellS (by have := vars_len d t; have := HZP.out; omega) (fun a n' c' e => by
              simp only [Value.slice.injEq] at e
              obtain ⟨rfl, rfl, rfl⟩ := e
              exact row_cap HRW.out)
            have hb3 : Below w1.heap.size w1 w2 := hb.out.trans (hB2.mono hb.out.size)
            clear HRW hB2 hb hbw
            go_wp2_with fail
            refine hO.mono ?_
            clear hO
            rintro e w3 ⟨bo, rfl, HB, hB3⟩
            have hb4 : Below w1.heap.size w1 w3 := hb3.trans (hB3.mono hb3.size)
            clear hB3 hb3
            cases bo
            · have HR : Hid (¬ FN) := fun hR => by have := HB.out.2 (HPC.out j _ HT.out hR).1; cases this
              have hb5 : Below w.heap.size w w3 := HBW.out.1.trans (hb4.mono HBW.out.1.size)
              clear HB hb4 HPC HFA
              go_wp2_with fail
              go_ret
              exact ⟨-1, rfl, .inr ⟨HR.out, rfl⟩, hb5⟩
            · have hbw3 : Below w.heap.size w w3 := HBW.out.1.trans (hb4.mono HBW.out.1.size)
              have hrow := (hb4.block _ HBW.out.2).trans HB1.out
              have b4 : w3.cell? ⟨w.heap.size, 4, none⟩ = some (.slice (some ⟨b, o, none⟩) l4 c4) := by rw [cell_of_row w3 _ 4 _ _ _ hrow]; rfl
              have f0 : w3.cell? ⟨b, o + j * 10, none⟩ = some _ := cell_later hbw3 (HCE.out 0 _ rfl)
              have f1 : w3.cell? ⟨b, o + j * 10 + 1, none⟩ = some _ := cell_later hbw3 (HCE.out 1 _ rfl)
              have f2 : w3.cell? ⟨b, o + j * 10 + 2, none⟩ = some _ := cell_later hbw3 (HCE.out 2 _ rfl)
              have f3 : w3.cell? ⟨b, o + j * 10 + 3, none⟩ = some _ := cell_later hbw3 (HCE.out 3 _ rfl)
              have f4 : w3.cell? ⟨b, o + j * 10 + 4, none⟩ = some _ := cell_later hbw3 (HCE.out 4 _ rfl)
              have hP1 := HI.out _ t true (deep - 1) y w3 (ExR.lasts d _ _ _ _ HRE.out.1 hbw3) HZP.out.1 (by omega) (by omega) (by omega) (by omega)
              have HND : Hid ((vars d t).Nodup) := HB.out.1 rfl
              clear hrow HB
              go_wp2_with fail
              refine hP1.mono ?_
              clear hP1 f0 f1 f2 f3 f4 b4
              rintro e w4 ⟨r, rfl, hr, hB4⟩
              have hb5 : Below w1.heap.size w1 w4 := hb4.trans (hB4.mono hb4.size)
              clear hB4 hb4 hbw3
              rcases hr.out with ⟨r1, r2⟩ | ⟨r1, r2⟩
              · have hr0 : 0 ≤ r := by have := r1.2; omega
                have hr1 : r ≤ 1000000 := by omega
                have HP1 : Hid (FineX d true (deep - 1) y t ∧ r = y - cntX d t) := ⟨r1, r2⟩
                have hbw4 : Below w.heap.size w w4 := HBW.out.1.trans (hb5.mono HBW.out.1.size)
                have hrow := (hb5.block _ HBW.out.2).trans HB1.out
                have b4 : w4.cell? ⟨w.heap.size, 4, none⟩ = some (.slice (some ⟨b, o, none⟩) l4 c4) := by rw [cell_of_row w4 _ 4 _ _ _ hrow]; rfl
                have f0 : w4.cell? ⟨b, o + j * 10 + 5, none⟩ = some _ := cell_later hbw4 (HCE.out 5 _ rfl)
                have f1 : w4.cell? ⟨b, o + j * 10 + 6, none⟩ = some _ := cell_later hbw4 (HCE.out 6 _ rfl)
                have f2 : w4.cell? ⟨b, o + j * 10 + 7, none⟩ = some _ := cell_later hbw4 (HCE.out 7 _ rfl)
                have f3 : w4.cell? ⟨b, o + j * 10 + 8, none⟩ = some _ := cell_later hbw4 (HCE.out 8 _ rfl)
                have f4 : w4.cell? ⟨b, o + j * 10 + 9, none⟩ = some _ := cell_later hbw4 (HCE.out 9 _ rfl)
                have hP2 := HI.out _ u false (deep - 1) r w4 (ExR.lasts d _ _ _ _ HRE.out.2 hbw4) HZP.out.2 (by omega) (by omega) (by omega) (by omega)
                clear hrow r1 r2 hr
                go_wp2_with fail
                refine hP2.mono ?_
                clear hP2 f0 f1 f2 f3 f4 b4
                rintro e w5 ⟨r5, rfl, hr5, hB5⟩
                have hb6 : Hid (Below w1.heap.size w1 w5) := hb5.trans (hB5.mono hb5.size)
                have HR2 : Hid ((PrB d pat deep left ES len M CS (j + 1) ∧ r5 = left - 1 - M - sumP (ClF (cntX d)) CS (j + 1)) ∨ (¬ FN ∧ r5 = -1)) := by
                  have hstep := sumP_succ (ClF (cntX d)) CS j _ HT.out
                  have hcf : ClF (cntX d) (t, u) = cntX d t + cntX d u := rfl
                  obtain ⟨p1, p2⟩ := HPY.out
                  obtain ⟨s1, s2⟩ := HP1.out
                  rcases hr5.out with ⟨r1, r2⟩ | ⟨r1, r2⟩
                  · rw [s2] at r1
                    rw [p2] at s1 r1
                    exact .inl ⟨⟨p1.1, p1.2.step HT.out HND.out s1 r1⟩, by omega⟩
                  · refine .inr ⟨fun hR => r1 ?_, r2⟩
                    have := (HPC.out j _ HT.out hR).2.2
                    rw [s2, p2]
                    exact this
                clear hB5 hb5 hbw4 hr5 HP1 HPY HND
                go_wp2_with fail
                go_roundw
                case rel => exact ⟨j + 1, r5, by omega, by go_num, rfl, hb6, HR2⟩
                case measure => simp [intOf]; omega
              · have HR2 : Hid ((PrB d pat deep left ES len M CS (j + 1) ∧ r = left - 1 - M - sumP (ClF (cntX d)) CS (j + 1)) ∨ (¬ FN ∧ r = -1)) := by
                  refine .inr ⟨fun hR => r1 ?_, r2⟩
                  have := (HPC.out j _ HT.out hR).2.1
                  rw [HPY.out.2]
                  exact this
                have hb6 : Hid (Below w1.heap.size w1 w4) := hb5
                have hrn : r < 0 := by omega
                clear hb5 hr r1 r2 HPY HND
                go_wp2_with fail
                go_roundw
                case rel => exact ⟨j + 1, r, by omega, by go_num, rfl, hb6, HR2⟩
                case measure => simp [intOf]; omega
          · have HR : Hid ((FN ∧ y = left - CN) ∨ (¬ FN ∧ y = -1)) := by
              rcases HS.out with ⟨h, hy⟩ | h
              · have hy0 : 0 ≤ y := by have := h.2.2; omega
                obtain rfl : j = l4 := by omega
                exact .inl (HFA.out y h.1 h.2 hy)
              · exact .inr h
            clear HS hrow
            rcases Nat.lt_or_ge j l4 with hjl | hjl
            · have hy : y < 0 := by omega
              have hjl' : (j : Int) < (l4 : Int) := by omega
              clear hgo
              go_wp2_with fail
              go_ret
              exact ⟨y, rfl, HR, hbw⟩
            · have hjl' : decide ((j : Int) < (l4 : Int)) = false := by simp; omega
              clear hgo
              go_wp2_with fail
              go_ret
              exact ⟨y, rfl, HR, hbw⟩

theorem specLook4_any : ∀ d, LkC d := by
  intro d
  induction d with
  | zero => intro vs e pat deep left w h; exact h.elim
  | succ d ih => exact specLook4_of d ih

set_option maxHeartbeats 1000000 in
/-- The model's ExprOk. -/
theorem specExprOk_any (d : Nat) (vs : List Value) (x : Ex d) (w : World) (hr : ExR d w vs x) (hz : szX d x ≤ 1048576) :
    Calls Tryz.prog 35 #[.agg vs.toArray] w fun e w' => ∃ b : Bool, e = .returned (.bool b) ∧ Hid (b = true ↔ FineX d false 10 300 x) ∧ Below w.heap.size w w' := by
  obtain ⟨k, n, s, a3, l3, c3, a4, l4, c4, rfl⟩ := ExR.shape d w vs x hr
  have hA : Below w.heap.size w (w.alloc (.cells #[.int .i64 k, .int .i64 n, .string s, .slice a3 l3 c3, .slice a4 l4 c4] 39)) := (Below.refl _ _).alloc (Nat.le_refl _) _
  have hC := specLook4_any d _ x false 10 300 _ (ExR.lasts d _ _ _ _ hr hA) hz (by omega) (by omega) (by omega) (by omega)
  clear hr
  go_enter Tryz.func35, Tryz.ntmps35
  go_wp2_with fail
  refine hC.mono ?_
  clear hC
  rintro e w1 ⟨r, rfl, hr, hB⟩
  have hb2 : Below w.heap.size w w1 := hA.trans (hB.mono (by simp))
  clear hA hB
  rcases hr.out with ⟨r1, r2⟩ | ⟨r1, r2⟩
  · have h0 : 0 ≤ r := by have := r1.2; omega
    have HR : Hid (FineX d false 10 300 x) := r1
    clear r1 r2 hr
    go_wp2
    go_ret
    exact ⟨_, rfl, by show _ ↔ _; simp [HR.out], hb2⟩
  · have HR : Hid (¬ FineX d false 10 300 x) := r1
    subst r2
    clear r1 hr
    go_wp2
    go_ret
    exact ⟨false, rfl, iff_no HR.out, hb2⟩

end Go.Proofs.YtgeedoeaepcmcaaGreatDoor
