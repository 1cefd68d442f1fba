/- When an expression is right in all its storeys; the model's look-up in a list of texts. -/
import Derived.Test.YtgmddookohkhlaaFxM
import Derived.Test.YtgmddookohkhlaaXk3M
namespace Go.Proofs.Ytgmddookohkhlaa
open Go.RowKit
set_option linter.unusedVariables false

/-- How many there are. -/
def cntX : (d : Nat) → Ex d → Nat
  | 0, _ => 0
  | d + 1, e => 1 + (e.E.map (cntX d)).sum + (e.C.map (ClF (cntX d))).sum

/-- Right, no deeper than told; as an expression, or as a pattern (whose own names are asked elsewhere). -/
def GoodX : (d : Nat) → Bool → Int → Ex d → Prop
  | 0, _, _, _ => False
  | d + 1, pat, deep, e => 1 ≤ deep ∧ ShX pat e.K e.N e.S e.E.length e.C.length ∧ (∀ x ∈ e.E, GoodX d pat (deep - 1) x) ∧ (∀ c ∈ e.C, (vars d c.1).Nodup ∧ GoodX d true (deep - 1) c.1 ∧ GoodX d false (deep - 1) c.2)

/-- .. and of no more than are left. -/
def FineX (d : Nat) (pat : Bool) (deep left : Int) (e : Ex d) : Prop := GoodX d pat deep e ∧ (cntX d e : Int) ≤ left

/-- The first j parts are right. -/
def PrE (d : Nat) (pat : Bool) (deep left : Int) (es : List (Ex d)) (j : Nat) : Prop := (∀ x ∈ es.take j, GoodX d pat (deep - 1) x) ∧ ((1 + sumP (cntX d) es j : Nat) : Int) ≤ left
def ClG (d : Nat) (deep : Int) (c : Ex d × Ex d) : Prop := (vars d c.1).Nodup ∧ GoodX d true (deep - 1) c.1 ∧ GoodX d false (deep - 1) c.2
/-- .. and so are the first j clauses. -/
def PrC (d : Nat) (deep left : Int) (m : Nat) (cs : List (Ex d × Ex d)) (j : Nat) : Prop := (∀ c ∈ cs.take j, ClG d deep c) ∧ ((1 + m + sumP (ClF (cntX d)) cs j : Nat) : Int) ≤ left

theorem mem_take_succ {α : Type} {xs : List α} {j : Nat} {x y : α} (h : xs[j]? = some x) (hy : y ∈ xs.take (j + 1)) : y ∈ xs.take j ∨ y = x := by
  have hl := (List.getElem?_eq_some_iff.1 h).1
  rw [List.take_succ_eq_append_getElem hl, (List.getElem?_eq_some_iff.1 h).2] at hy
  simpa using hy
theorem sumP_whole {α : Type} (f : α → Nat) (xs : List α) : sumP f xs xs.length = (xs.map f).sum := by unfold sumP; rw [List.take_length]

theorem PrE.start {d : Nat} {pat : Bool} {deep left : Int} {es : List (Ex d)} (h : 1 ≤ left) : PrE d pat deep left es 0 := ⟨fun x hx => by simp at hx, by show ((1 + 0 : Nat) : Int) ≤ left; omega⟩
theorem PrE.step {d : Nat} {pat : Bool} {deep left : Int} {es : List (Ex d)} {j : Nat} {x : Ex d} (hx : es[j]? = some x) (h : PrE d pat deep left es j) (hf : FineX d pat (deep - 1) (left - 1 - sumP (cntX d) es j) x) : PrE d pat deep left es (j + 1) := by
  have h1 := sumP_succ (cntX d) es j x hx
  obtain ⟨f1, f2⟩ := hf
  refine ⟨fun y hy => ?_, by omega⟩
  rcases mem_take_succ hx hy with h2 | rfl
  · exact h.1 y h2
  · exact f1
theorem PrC.start {d : Nat} {pat : Bool} {deep left : Int} {es : List (Ex d)} {cs : List (Ex d × Ex d)} (h : PrE d pat deep left es es.length) : PrC d deep left (es.map (cntX d)).sum cs 0 := ⟨fun x hx => by simp at hx, by have := h.2; rw [sumP_whole] at this; show ((1 + (es.map (cntX d)).sum + 0 : Nat) : Int) ≤ left; omega⟩
theorem PrC.step {d : Nat} {deep left : Int} {m : Nat} {cs : List (Ex d × Ex d)} {j : Nat} {c : Ex d × Ex d} (hx : cs[j]? = some c) (h : PrC d deep left m cs j) (hn : (vars d c.1).Nodup) (hp : FineX d true (deep - 1) (left - 1 - m - sumP (ClF (cntX d)) cs j) c.1) (hq : FineX d false (deep - 1) (left - 1 - m - sumP (ClF (cntX d)) cs j - cntX d c.1) c.2) : PrC d deep left m cs (j + 1) := by
  have h1 := sumP_succ (ClF (cntX d)) cs j c hx
  have h2 : ClF (cntX d) c = cntX d c.1 + cntX d c.2 := rfl
  obtain ⟨f1, f2⟩ := hp
  obtain ⟨g1, g2⟩ := hq
  refine ⟨fun y hy => ?_, by omega⟩
  rcases mem_take_succ hx hy with h2 | rfl
  · exact h.1 y h2
  · exact ⟨hn, f1, g1⟩
theorem FineX.all {d : Nat} {pat : Bool} {deep left : Int} {e : Ex (d + 1)} (hd : 1 ≤ deep) (hs : ShX pat e.K e.N e.S e.E.length e.C.length) (h : PrE d pat deep left e.E e.E.length) (hc : PrC d deep left (e.E.map (cntX d)).sum e.C e.C.length) : FineX (d + 1) pat deep left e := by
  obtain ⟨h1, h2⟩ := h
  obtain ⟨h3, h4⟩ := hc
  rw [List.take_length] at h1 h3
  rw [sumP_whole] at h4
  exact ⟨⟨hd, hs, h1, h3⟩, h4⟩
theorem FineX.part {d : Nat} {pat : Bool} {deep left : Int} {e : Ex (d + 1)} (h : FineX (d + 1) pat deep left e) {j : Nat} {x : Ex d} (hx : e.E[j]? = some x) : FineX d pat (deep - 1) (left - 1 - sumP (cntX d) e.E j) x := by
  obtain ⟨⟨_, _, h3, _⟩, h5⟩ := h
  have h1 := sumP_succ (cntX d) e.E j x hx
  have h2 := sumP_le (cntX d) e.E (j + 1)
  have h6 : cntX (d + 1) e = 1 + (e.E.map (cntX d)).sum + (e.C.map (ClF (cntX d))).sum := rfl
  exact ⟨h3 x (List.mem_of_getElem? hx), by omega⟩
theorem FineX.clause {d : Nat} {pat : Bool} {deep left : Int} {e : Ex (d + 1)} (h : FineX (d + 1) pat deep left e) {j : Nat} {c : Ex d × Ex d} (hx : e.C[j]? = some c) : (vars d c.1).Nodup ∧ FineX d true (deep - 1) (left - 1 - (e.E.map (cntX d)).sum - sumP (ClF (cntX d)) e.C j) c.1 ∧ FineX d false (deep - 1) (left - 1 - (e.E.map (cntX d)).sum - sumP (ClF (cntX d)) e.C j - cntX d c.1) c.2 := by
  obtain ⟨⟨_, _, _, h4⟩, h5⟩ := h
  have h1 := sumP_succ (ClF (cntX d)) e.C j c hx
  have h2 := sumP_le (ClF (cntX d)) e.C (j + 1)
  have h3 : ClF (cntX d) c = cntX d c.1 + cntX d c.2 := rfl
  have h6 : cntX (d + 1) e = 1 + (e.E.map (cntX d)).sum + (e.C.map (ClF (cntX d))).sum := rfl
  obtain ⟨q1, q2, q3⟩ := h4 c (List.mem_of_getElem? hx)
  exact ⟨q1, ⟨q2, by omega⟩, q3, by omega⟩
theorem cntX_pos : ∀ (d : Nat) (e : Ex (d + 1)), 1 ≤ cntX (d + 1) e := fun d e => by show 1 ≤ 1 + _ + _; omega

/-! A text in a list of texts. -/

theorem str_eq {a b : ByteArray} (h : a.toList = b.toList) : a = b := by
  rw [ByteArray.toList_eq, ByteArray.toList_eq] at h
  exact ByteArray.ext (Array.toList_inj.mp h)

set_option maxHeartbeats 1000000 in
theorem l4Has_any (l : List ByteArray) (s : ByteArray) (a : Option Addr) (n c : Nat) (w : World) (hn : n ≤ l.length) (hm : n ≤ 9223372036854775807) (he : ∀ (i : Nat) (s : ByteArray), l[i]? = some s → ∃ b o, a = some ⟨b, o, none⟩ ∧ w.cell? ⟨b, o + i, none⟩ = some (.string s)) :
    Calls Try.prog 62 #[.slice a n c, .string s] w fun r w' => ∃ b : Bool, r = .returned (.bool b) ∧ Hid (b = true ↔ s ∈ l.take n) ∧ w = w' := by
  have HE : Hid (∀ (i : Nat) (s : ByteArray), l[i]? = some s → ∃ b o, a = some ⟨b, o, none⟩ ∧ w.cell? ⟨b, o + i, none⟩ = some (.string s)) := he
  have HN : Hid (n ≤ l.length) := hn
  clear he hn
  go_enter Try.func62, Try.ntmps62
  go_wp2_with fail
  go_loopw [5] (fun i wr => ∃ k : Nat, k ≤ n ∧ i = .int .i64 k ∧ Hid (s ∉ l.take k) ∧ w = wr) (fun i _ => n - (intOf i).toNat)
  case atStart => exact ⟨0, Nat.zero_le _, rfl, by show s ∉ l.take 0; simp, rfl⟩
  case round =>
    obtain ⟨k, hk, rfl, hno, rfl⟩ := hrel
    by_cases hkl : k < n
    · obtain ⟨t, ht⟩ : ∃ t, l[k]? = some t := ⟨_, List.getElem?_eq_getElem (by have := HN.out; omega)⟩
      obtain ⟨b, o, rfl, f0⟩ := HE.out k t ht
      have hkl' : (k : Int) < (n : Int) := by omega
      by_cases hst : t = s
      · subst hst
        have HY : Hid (t ∈ l.take n) := List.mem_of_getElem? (i := k) (by rw [List.getElem?_take, if_pos hkl]; exact ht)
        clear ht hno
        go_wp2_with fail
        go_ret
        exact ⟨true, rfl, iff_yes HY.out, rfl⟩
      · have hne : (t.toList == s.toList) = false := by simpa using fun e => hst (str_eq e)
        have HNX : Hid (s ∉ l.take (k + 1)) := fun hm => by
          rcases mem_take_succ ht hm with h | h
          · exact hno.out h
          · exact hst h.symm
        clear ht hno hst
        go_wp2_with fail
        go_roundw
        case rel => exact ⟨k + 1, by omega, by go_num, HNX, trivial⟩
        case measure => simp [intOf]; omega
    · obtain rfl : k = n := by omega
      have hkl' : decide ((k : Int) < (k : Int)) = false := by simp
      go_wp2_with fail
      go_ret
      exact ⟨false, rfl, iff_no hno.out, rfl⟩

theorem nodup_take_succ {l : List ByteArray} {k : Nat} {t : ByteArray} (ht : l[k]? = some t) (h : (l.take k).Nodup) (hn : t ∉ l.take k) : (l.take (k + 1)).Nodup := by
  have hl := (List.getElem?_eq_some_iff.1 ht).1
  rw [List.take_succ_eq_append_getElem hl, (List.getElem?_eq_some_iff.1 ht).2, List.nodup_append]
  exact ⟨h, by simp, fun x hx y hy e => by simp at hy; subst hy; subst e; exact hn hx⟩
theorem not_nodup_take {l : List ByteArray} {k : Nat} {t : ByteArray} (ht : l[k]? = some t) (hn : t ∈ l.take k) : ¬ l.Nodup := by
  intro h
  have hl := (List.getElem?_eq_some_iff.1 ht).1
  have h1 : (l.take (k + 1)).Nodup := h.sublist (List.take_sublist _ _)
  rw [List.take_succ_eq_append_getElem hl, (List.getElem?_eq_some_iff.1 ht).2, List.nodup_append] at h1
  exact h1.2.2 t hn t (by simp) rfl

set_option maxHeartbeats 1000000 in
theorem l4Once_any (l : List ByteArray) (v : Value) (w : World) (h : TellS w v l) (hm : l.length ≤ 9223372036854775807) (hc : ∀ a n c, v = .slice a n c → n ≤ c) :
    Calls Try.prog 37 #[v] w fun r w' => ∃ b : Bool, r = .returned (.bool b) ∧ Hid (b = true ↔ l.Nodup) ∧ Below w.heap.size w w' := by
  obtain ⟨a, c, rfl, he⟩ := h
  obtain ⟨n, hn⟩ : ∃ n, l.length = n := ⟨_, rfl⟩
  have hnc := hc _ _ _ rfl
  have HE : Hid (∀ (i : Nat) (s : ByteArray), l[i]? = some s → ∃ b o, a = some ⟨b, o, none⟩ ∧ w.cell? ⟨b, o + i, none⟩ = some (.string s)) := he
  have HN : Hid (l.length = n) := hn
  rw [hn] at hm hnc ⊢
  clear he hn hc
  go_enter Try.func37, Try.ntmps37
  go_wp2_with fail
  go_loopw [3] (fun i wr => ∃ k : Nat, k ≤ n ∧ i = .int .i64 k ∧ Hid ((l.take k).Nodup) ∧ Below w.heap.size w wr) (fun i _ => n - (intOf i).toNat)
  case atStart => exact ⟨0, Nat.zero_le _, rfl, by show (l.take 0).Nodup; simp, Below.refl _ _⟩
  case round =>
    obtain ⟨k, hk, rfl, hno, hb⟩ := hrel
    by_cases hkl : k < n
    · obtain ⟨t, ht⟩ : ∃ t, l[k]? = some t := ⟨_, List.getElem?_eq_getElem (by have := HN.out; omega)⟩
      obtain ⟨b, o, rfl, f0⟩ := HE.out k t ht
      have f1 := cell_later hb f0
      have hkl' : (k : Int) < (n : Int) := by omega
      have HC : Hid (∀ X : World, Below wr.heap.size wr X → Calls Try.prog 62 #[.slice (some ⟨b, o, none⟩) k c, .string t] X fun r w' => ∃ b : Bool, r = .returned (.bool b) ∧ Hid (b = true ↔ t ∈ l.take k) ∧ X = w') := fun X hX => l4Has_any l t _ k c X (by have := HN.out; omega) (by omega) fun i s hs => by
        obtain ⟨b', o', e1, e2⟩ := HE.out i s hs
        exact ⟨b', o', e1, cell_later hX (cell_later hb e2)⟩
      have HT : Hid (l[k]? = some t) := ht
      have hlst : Below wr.heap.size wr wr.drew := (Below.refl _ _).drew
      clear ht f0
      go_wp2_with fail
      go_region_with (go_at_call 62; refine (HC.out _ hlst).mono ?_; rintro e V ⟨q, rfl, HQ, rfl⟩)
      all_goals
        have hb2 : Below w.heap.size w wr.drew := hb.trans (hlst.mono hb.size)
        clear f1 HC hlst hb
        cases q
        · have HNX : Hid ((l.take (k + 1)).Nodup) := nodup_take_succ HT.out hno.out fun h => by have := HQ.out.2 h; cases this
          clear hno HQ HT
          go_wp2_with fail
          go_roundw
          case rel => exact ⟨k + 1, by omega, by go_num, HNX, hb2⟩
          case measure => simp [intOf]; omega
        · have HNX : Hid (¬ l.Nodup) := not_nodup_take HT.out (HQ.out.1 rfl)
          clear hno HQ HT
          go_wp2_with fail
          go_ret
          exact ⟨false, rfl, iff_no HNX.out, hb2⟩
    · obtain rfl : k = n := by omega
      have hkl' : decide ((k : Int) < (k : Int)) = false := by simp
      have HY : Hid (l.Nodup) := by have := hno.out; rw [List.take_of_length_le (by have := HN.out; omega)] at this; exact this
      clear hno
      go_wp2_with fail
      go_ret
      exact ⟨true, rfl, iff_yes HY.out, hb⟩

end Go.Proofs.Ytgmddookohkhlaa
