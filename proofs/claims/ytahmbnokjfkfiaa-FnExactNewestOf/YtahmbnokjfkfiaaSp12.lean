/- Tables: where a name stands, the newest number of a module, and whether the code of a number is there: the model's. -/
import Derived.Test.YtahmbnokjfkfiaaDtEntry
import Derived.Test.YtahmbnokjfkfiaaLo1
namespace Go.Proofs.Ytahmbnokjfkfiaa
open Go.RowKit
set_option linter.unusedVariables false

def named {d : Nat} (s : ByteArray) (e : DEntry d) : Bool := decide (e.Name = s)

set_option maxRecDepth 100000 in
set_option maxHeartbeats 2000000 in
theorem l12At_any (d : Nat) (v : Value) (m : List (DEntry d)) (s : ByteArray) (w : World) (hr : RowOf 7 (EntryR d) w v m) (hl1 : m.length ≤ 1048576) :
    Calls Try.prog 16 #[v, .string s] w fun e w' => e = .returned (.int .i64 (fidx (named s) m)) ∧ w = w' := by
  obtain ⟨a, c, e⟩ := hr.slice
  subst e
  have HE : Hid (RowOf 7 (EntryR d) w (.slice a m.length c) m) := hr
  obtain ⟨len, hl⟩ : ∃ l, m.length = l := ⟨_, rfl⟩
  have HL : Hid (m.length = len) := hl
  rw [hl] at hl1 HE ⊢
  clear hr hl
  go_enter Try.func16, Try.ntmps16
  go_wp2_with fail
  go_loopw [5] (fun i wr => ∃ k : Nat, k ≤ len ∧ i = .int .i64 k ∧ w = wr ∧ Hid (∀ (j : Nat) (g : DEntry d), j < k → m[j]? = some g → named s g = false)) (fun i _ => len - (intOf i).toNat)
  case atStart => exact ⟨0, Nat.zero_le _, rfl, rfl, fun j g hj => absurd hj (Nat.not_lt_zero _)⟩
  case round =>
    obtain ⟨k, hk, rfl, rfl, HN⟩ := hrel
    by_cases hkl : k < len
    · obtain ⟨t, ht⟩ : ∃ t, m[k]? = some t := ⟨_, List.getElem?_eq_getElem (by have := HL.out; omega)⟩
      obtain ⟨b, o, a2, l2, c2, a3, l3, c3, a5, l5, c5, a6, l6, c6, rfl, f0, _⟩ := Entry_at HE.out k t ht
      have hkl' : (k : Int) < (len : Int) := by omega
      have HT : Hid (m[k]? = some t) := ht
      clear ht
      by_cases hs : t.Name = s
      · have hs' : (t.Name.toList == s.toList) = true := by rw [hs]; simp
        have HF : Hid ((k : Int) = fidx (named s) m) := (fidx_hit HT.out (decide_eq_true hs) HN.out).symm
        clear HN hs
        go_wp2_with fail
        go_ret
        exact ⟨tret1 HF.out, rfl⟩
      · have hs' : (t.Name.toList == s.toList) = false := by rw [str_beq]; exact decide_eq_false hs
        have HF : Hid (∀ (j : Nat) (g : DEntry d), j < k + 1 → m[j]? = some g → named s g = false) := later_step HT.out (decide_eq_false hs) HN.out
        clear HN hs
        go_wp2_with fail
        go_roundw
        case rel => exact ⟨k + 1, by omega, by go_num, trivial, HF⟩
        case measure => simp [intOf]; omega
    · obtain rfl : k = len := by omega
      have hkl' : decide ((k : Int) < (k : Int)) = false := by simp
      have HF : Hid ((-1 : Int) = fidx (named s) m) := (fidx_none (fun j y hj hy => HN.out j y (by have := HL.out; omega) hy)).symm
      clear HN
      go_wp2_with fail
      go_ret
      exact ⟨tret1 HF.out, rfl⟩

def fNewestOf (d : Nat) (m : List (DEntry d)) (s : ByteArray) : Int := match m.find? (named s) with | some e => e.No | none => 0

theorem fNewest_hit {d : Nat} {m : List (DEntry d)} {s : ByteArray} {k : Nat} {x : DEntry d} (hx : m[k]? = some x) (hp : named s x = true) (hn : ∀ (j : Nat) (y : DEntry d), j < k → m[j]? = some y → named s y = false) : fNewestOf d m s = x.No := by
  have : m.find? (named s) = some x := by
    rw [List.find?_eq_some_iff_getElem]
    obtain ⟨h1, h2⟩ := List.getElem?_eq_some_iff.1 hx
    refine ⟨hp, k, h1, h2, fun j hj => ?_⟩
    have := hn j m[j] hj (List.getElem?_eq_getElem (by omega))
    simp [this]
  unfold fNewestOf
  rw [this]
theorem fNewest_none {d : Nat} {m : List (DEntry d)} {s : ByteArray} (h : ∀ x ∈ m, named s x = false) : fNewestOf d m s = 0 := by
  have : m.find? (named s) = none := by
    rw [List.find?_eq_none]
    intro x hx
    rw [h x hx]
    simp
  unfold fNewestOf
  rw [this]

set_option maxRecDepth 100000 in
set_option maxHeartbeats 2000000 in
theorem specNewestOf_any (d : Nat) (v : Value) (m : List (DEntry d)) (s : ByteArray) (w : World) (hr : RowOf 7 (EntryR d) w v m) (hw : WfRow (WfEntry d) m) (hz : szRow (szEntryD d) m ≤ 1048576) (hs : s.size ≤ 1048576) :
    Calls Try.prog 6 #[v, .string s] w fun e w' => e = .returned (.int .i64 (fNewestOf d m s)) ∧ Below w.heap.size w w' := by
  have hl1 := szRow_len (szEntryD d) m
  have hC := l12At_any d v m s w hr (by omega)
  obtain ⟨a, c, e⟩ := hr.slice
  subst e
  have HE : Hid (RowOf 7 (EntryR d) w (.slice a m.length c) m) := hr
  have hcs := fidx_cases (named s) m
  have hlen : m.length ≤ 1048576 := by omega
  obtain ⟨len, hl⟩ : ∃ l, m.length = l := ⟨_, rfl⟩
  have HL : Hid (m.length = len) := hl
  rw [hl] at hC HE hlen ⊢
  clear hr hw hz hs hl hl1
  rcases hcs with ⟨h1, h2⟩ | ⟨k, x, h1, h2, h3, h4⟩
  · have HF : Hid ((0 : Int) = fNewestOf d m s) := (fNewest_none h2).symm
    rw [h1] at hC
    clear h1 h2
    go_enter Try.func6, Try.ntmps6
    go_wp2_with fail
    refine hC.mono ?_
    clear hC
    rintro e w1 ⟨rfl, rfl⟩
    go_wp2_with fail
    go_ret
    exact ⟨tret1 HF.out, Below.refl _ _⟩
  · have HF : Hid (x.No = fNewestOf d m s) := (fNewest_hit h2 h3 h4).symm
    obtain ⟨b, o, a2, l2, c2, a3, l3, c3, a5, l5, c5, a6, l6, c6, rfl, f0, f1, _⟩ := Entry_at HE.out k x h2
    have hk : k < len := by have := (List.getElem?_eq_some_iff.1 h2).1; have := HL.out; omega
    rw [h1] at hC
    have hk' : (k : Int) < (len : Int) := by omega
    clear h1 h2 h3 h4 f0
    go_enter Try.func6, Try.ntmps6
    go_wp2_with fail
    refine hC.mono ?_
    clear hC
    rintro e w1 ⟨rfl, rfl⟩
    go_wp2_with fail
    go_ret
    exact ⟨tret1 HF.out, Below.refl _ _⟩

end Go.Proofs.Ytahmbnokjfkfiaa
