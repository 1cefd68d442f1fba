/- FunAt: where the first function of that name stands, the model's and the program's. -/
import Derived.Test.YtpokheklplcamaaMo3
namespace Go.Proofs.Ytpokheklplcamaa
open Go.RowKit
set_option linter.unusedVariables false

/-- The place of the first of that name, or -1. -/
def FAt (d : Nat) (m : List (Fu d)) (s : ByteArray) (r : Int) : Prop := (r = -1 ∧ ∀ f ∈ m, ¬ f.nm = s) ∨ ∃ (i : Nat) (f : Fu d), r = i ∧ m[i]? = some f ∧ f.nm = s ∧ ∀ (j : Nat) (g : Fu d), j < i → m[j]? = some g → ¬ g.nm = s
theorem FAt.same {d : Nat} {m : List (Fu d)} {s : ByteArray} {r r' : Int} (h : FAt d m s r) (h' : FAt d m s r') : r = r' := by
  rcases h with ⟨rfl, h⟩ | ⟨i, f, rfl, h1, h2, h3⟩ <;> rcases h' with ⟨rfl, h'⟩ | ⟨i', f', rfl, h1', h2', h3'⟩
  · rfl
  · exact absurd h2' (h _ (List.mem_of_getElem? h1'))
  · exact absurd h2 (h' _ (List.mem_of_getElem? h1))
  · have : i = i' := by
      rcases Nat.lt_trichotomy i i' with q | q | q
      · exact absurd h2 (h3' i f q h1)
      · exact q
      · exact absurd h2' (h3 i' f' q h1')
    rw [this]
theorem FAt.none {d : Nat} {m : List (Fu d)} {s : ByteArray} {k : Nat} (hk : m.length ≤ k) (h : ∀ (j : Nat) (g : Fu d), j < k → m[j]? = some g → ¬ g.nm = s) : FAt d m s (-1) :=
  .inl ⟨rfl, fun f hf => by
    obtain ⟨j, hj⟩ := List.getElem?_of_mem hf
    exact h j f (Nat.lt_of_lt_of_le (List.getElem?_eq_some_iff.1 hj).1 hk) hj⟩
theorem FAt.next {d : Nat} {m : List (Fu d)} {s : ByteArray} {k : Nat} {f : Fu d} (hf : m[k]? = some f) (hn : ¬ f.nm = s) (h : ∀ (j : Nat) (g : Fu d), j < k → m[j]? = some g → ¬ g.nm = s) : ∀ (j : Nat) (g : Fu d), j < k + 1 → m[j]? = some g → ¬ g.nm = s := fun j g hj hg => by
  rcases Nat.lt_or_ge j k with q | q
  · exact h j g q hg
  · obtain rfl : j = k := by omega
    rw [hf] at hg
    cases hg
    exact hn

theorem str_same {a b : ByteArray} (h : a.toList = b.toList) : a = b := by
  rw [ByteArray.toList_eq, ByteArray.toList_eq] at h
  exact ByteArray.ext (Array.toList_inj.mp h)

theorem fun_name {d : Nat} {w : World} {a : Option Addr} {n c : Nat} {m : List (Fu d)} (h : RowOf 7 (FuR d) w (.slice a n c) m) (i : Nat) (f : Fu d) (hf : m[i]? = some f) : ∃ b o, a = some ⟨b, o, none⟩ ∧ w.cell? ⟨b, o + i * 7, none⟩ = some (.string f.nm) := by
  obtain ⟨a', c', e, hel⟩ := h
  cases e
  obtain ⟨b, o, vs, h2, h3, h4, vp, vx, rfl, _⟩ := hel i f hf
  exact ⟨b, o, h2, h4 0 _ rfl⟩

set_option maxRecDepth 100000 in
set_option maxHeartbeats 1000000 in
theorem specFunAt_any (d : Nat) (v : Value) (m : List (Fu d)) (s : ByteArray) (w : World) (hr : RowOf 7 (FuR d) w v m) (hl1 : m.length ≤ 1048576) :
    Calls Try.prog 29 #[.agg #[v], .string s] w fun e w' => ∃ r : Int, e = .returned (.int .i64 r) ∧ Hid (FAt d m s r) ∧ Below w.heap.size w w' := by
  obtain ⟨a, c, e⟩ := hr.slice
  subst e
  have HE : Hid (∀ (i : Nat) (f : Fu d), m[i]? = some f → ∃ b o, a = some ⟨b, o, none⟩ ∧ w.cell? ⟨b, o + i * 7, none⟩ = some (.string f.nm)) := fun_name hr
  obtain ⟨len, hl⟩ : ∃ l, m.length = l := ⟨_, rfl⟩
  have HL : Hid (m.length = len) := hl
  rw [hl] at hl1 ⊢
  clear hr hl
  obtain ⟨W, hW⟩ : ∃ W, W = w.alloc (.cells #[.slice a len c] 54) := ⟨_, rfl⟩
  have HA : Hid (Below w.heap.size w W) := by rw [hW]; exact (Below.refl _ _).alloc (Nat.le_refl _) _
  have b0 : W.cell? ⟨w.heap.size, 0, none⟩ = some (.slice a len c) := by rw [hW]; simp
  go_enter Try.func29, Try.ntmps29
  go_wp2_with fail
  rw [← hW]
  clear hW
  go_loopw [5] (fun i wr => ∃ k : Nat, k ≤ len ∧ i = .int .i64 k ∧ wr = W ∧ Hid (∀ (j : Nat) (g : Fu d), j < k → m[j]? = some g → ¬ g.nm = s)) (fun i _ => len - (intOf i).toNat)
  case atStart => exact ⟨0, Nat.zero_le _, rfl, rfl, fun j g hj => absurd hj (Nat.not_lt_zero _)⟩
  case round =>
    obtain ⟨k, hk, rfl, rfl, HN⟩ := hrel
    by_cases hkl : k < len
    · obtain ⟨t, ht⟩ : ∃ t, m[k]? = some t := ⟨_, List.getElem?_eq_getElem (by have := HL.out; omega)⟩
      obtain ⟨b, o, rfl, f0⟩ := HE.out k t ht
      have f1 := cell_later HA.out f0
      have hkl' : (k : Int) < (len : Int) := by omega
      have HT : Hid (m[k]? = some t) := ht
      obtain ⟨nm, hnm⟩ : ∃ x, t.nm = x := ⟨_, rfl⟩
      have HNM : Hid (t.nm = nm) := hnm
      rw [hnm] at f1
      clear f0 ht hnm
      by_cases hs : nm = s
      · have hs' : (nm.toList == s.toList) = true := by rw [hs]; simp
        have HF : Hid (FAt d m s k) := .inr ⟨k, t, rfl, HT.out, HNM.out.trans hs, HN.out⟩
        clear HN hs
        go_wp2_with fail
        go_ret
        exact ⟨k, rfl, HF, HA.out⟩
      · have hs' : (nm.toList == s.toList) = false := by rw [beq_eq_false_iff_ne]; exact fun e => hs (str_same e)
        have HF : Hid (∀ (j : Nat) (g : Fu d), j < k + 1 → m[j]? = some g → ¬ g.nm = s) := FAt.next HT.out (by rw [HNM.out]; exact hs) HN.out
        clear HN hs
        go_wp2_with fail
        go_roundw
        case rel => exact ⟨k + 1, by omega, by go_num, trivial, HF⟩
        case measure => simp [intOf]; omega
    · obtain rfl : k = len := by omega
      have hkl' : decide ((k : Int) < (k : Int)) = false := by simp
      have HF : Hid (FAt d m s (-1)) := FAt.none (by rw [HL.out]; exact Nat.le_refl _) HN.out
      clear HN
      go_wp2_with fail
      go_ret
      exact ⟨-1, rfl, HF, HA.out⟩

set_option maxRecDepth 100000 in
set_option maxHeartbeats 1000000 in
theorem funAt_any (d : Nat) (v : Value) (m : List (Fu d)) (s : ByteArray) (w : World) (hr : RowOf 7 (FuR d) w v m) (hl1 : m.length ≤ 1048576) :
    Calls Try.prog 31 #[.agg #[v], .string s] w fun e w' => ∃ r : Int, e = .returned (.int .i64 r) ∧ Hid (FAt d m s r) ∧ Below w.heap.size w w' := by
  obtain ⟨a, c, e⟩ := hr.slice
  subst e
  have HE : Hid (∀ (i : Nat) (f : Fu d), m[i]? = some f → ∃ b o, a = some ⟨b, o, none⟩ ∧ w.cell? ⟨b, o + i * 7, none⟩ = some (.string f.nm)) := fun_name hr
  obtain ⟨len, hl⟩ : ∃ l, m.length = l := ⟨_, rfl⟩
  have HL : Hid (m.length = len) := hl
  rw [hl] at hl1 ⊢
  clear hr hl
  obtain ⟨W, hW⟩ : ∃ W, W = w.alloc (.cells #[.slice a len c] 54) := ⟨_, rfl⟩
  have HA : Hid (Below w.heap.size w W) := by rw [hW]; exact (Below.refl _ _).alloc (Nat.le_refl _) _
  have b0 : W.cell? ⟨w.heap.size, 0, none⟩ = some (.slice a len c) := by rw [hW]; simp
  go_enter Try.func31, Try.ntmps31
  go_wp2_with fail
  rw [← hW]
  clear hW
  go_loopw [9] (fun i wr => ∃ k : Nat, k ≤ len ∧ i = .int .i64 k ∧ wr = W ∧ Hid (∀ (j : Nat) (g : Fu d), j < k → m[j]? = some g → ¬ g.nm = s)) (fun i _ => len - (intOf i).toNat)
  case atStart => exact ⟨0, Nat.zero_le _, rfl, rfl, fun j g hj => absurd hj (Nat.not_lt_zero _)⟩
  case round =>
    obtain ⟨k, hk, rfl, rfl, HN⟩ := hrel
    by_cases hkl : k < len
    · obtain ⟨t, ht⟩ : ∃ t, m[k]? = some t := ⟨_, List.getElem?_eq_getElem (by have := HL.out; omega)⟩
      obtain ⟨b, o, rfl, f0⟩ := HE.out k t ht
      have f1 := cell_later HA.out f0
      have hkl' : (k : Int) < (len : Int) := by omega
      have HT : Hid (m[k]? = some t) := ht
      obtain ⟨nm, hnm⟩ : ∃ x, t.nm = x := ⟨_, rfl⟩
      have HNM : Hid (t.nm = nm) := hnm
      rw [hnm] at f1
      clear f0 ht hnm
      by_cases hs : nm = s
      · have hs' : (nm.toList == s.toList) = true := by rw [hs]; simp
        have HF : Hid (FAt d m s k) := .inr ⟨k, t, rfl, HT.out, HNM.out.trans hs, HN.out⟩
        clear HN hs
        go_wp2_with fail
        go_ret
        exact ⟨k, rfl, HF, HA.out⟩
      · have hs' : (nm.toList == s.toList) = false := by rw [beq_eq_false_iff_ne]; exact fun e => hs (str_same e)
        have HF : Hid (∀ (j : Nat) (g : Fu d), j < k + 1 → m[j]? = some g → ¬ g.nm = s) := FAt.next HT.out (by rw [HNM.out]; exact hs) HN.out
        clear HN hs
        go_wp2_with fail
        go_roundw
        case rel => exact ⟨k + 1, by omega, by go_num, trivial, HF⟩
        case measure => simp [intOf]; omega
    · obtain rfl : k = len := by omega
      have hkl' : decide ((k : Int) < (k : Int)) = false := by simp
      have HF : Hid (FAt d m s (-1)) := FAt.none (by rw [HL.out]; exact Nat.le_refl _) HN.out
      clear HN
      go_wp2_with fail
      go_ret
      exact ⟨-1, rfl, HF, HA.out⟩

end Go.Proofs.Ytpokheklplcamaa
