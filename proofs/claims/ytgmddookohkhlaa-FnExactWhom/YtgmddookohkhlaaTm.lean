/- Terms as plain data, how they lie in memory, and the law's own measure of them. -/
import Derived.Test.YtgmddookohkhlaaRows
import Derived.WalkKit
import Derived.WalkSpells
import Derived.WalkLawsBesides
import Derived.BigQuiet
import Derived.Deep.QuietTactic
namespace Go.Proofs.Ytgmddookohkhlaa
open Go.RowKit

/-- A term of at most d storeys: its kind, its number, its text, what is in it. -/
def Tm : Nat → Type
  | 0 => Empty
  | d + 1 => Int × Int × ByteArray × List (Tm d)

def Tm.K {d : Nat} (t : Tm (d + 1)) : Int := t.1
def Tm.N {d : Nat} (t : Tm (d + 1)) : Int := t.2.1
def Tm.S {d : Nat} (t : Tm (d + 1)) : ByteArray := t.2.2.1
def Tm.L {d : Nat} (t : Tm (d + 1)) : List (Tm d) := t.2.2.2

/-- Four cells that hold a term's fields. -/
def Four (w : World) (b o : Nat) (k n : Int) (s : ByteArray) (v : Value) : Prop :=
  w.cell? ⟨b, o, none⟩ = some (.int .i64 k) ∧ w.cell? ⟨b, o + 1, none⟩ = some (.int .i64 n) ∧ w.cell? ⟨b, o + 2, none⟩ = some (.string s) ∧ w.cell? ⟨b, o + 3, none⟩ = some v

/-- A value that is a slice of the terms ts. -/
def RdL : (d : Nat) → World → Value → List (Tm d) → Prop
  | 0, _, v, _ => ∃ a c, v = .slice a 0 c
  | d + 1, w, v, ts => ∃ a c, v = .slice a ts.length c ∧ ∀ (i : Nat) (t : Tm (d + 1)), ts[i]? = some t → ∃ b o lv, a = some ⟨b, o, none⟩ ∧ Four w b (o + i * 4) t.K t.N t.S lv ∧ RdL d w lv t.L

/-- That a 64-bit int holds it. -/
def I64 (n : Int) : Prop := -9223372036854775808 ≤ n ∧ n ≤ 9223372036854775807

/-- What every list of terms that is in memory is within. -/
def WfL : (d : Nat) → List (Tm d) → Prop
  | 0, _ => True
  | d + 1, ts => ts.length ≤ 9223372036854775807 ∧ ∀ t ∈ ts, I64 t.K ∧ I64 t.N ∧ t.S.size ≤ maxLen ∧ WfL d t.L

/-- How great a list of terms is: each of them, each letter. -/
def szL : (d : Nat) → List (Tm d) → Nat
  | 0, _ => 0
  | d + 1, ts => ts.length + (ts.map fun t => t.S.size + szL d t.L).sum

/-- What is left of a measure. -/
def lft (left : Int) (n : Nat) : Int := if (n : Int) ≤ left then left - n else -1

theorem tret1 {a b : Int} (h : a = b) : Ending.returned (.int .i64 a) = .returned (.int .i64 b) := by rw [h]

theorem Four.later {w w' : World} {b o : Nat} {k n : Int} {s : ByteArray} {v : Value} (h : Four w b o k n s v) (hb : Below w.heap.size w w') : Four w' b o k n s v :=
  ⟨cell_later hb h.1, cell_later hb h.2.1, cell_later hb h.2.2.1, cell_later hb h.2.2.2⟩

theorem RdL.later : ∀ {d : Nat} {w w' : World} {v : Value} {ts : List (Tm d)}, RdL d w v ts → Below w.heap.size w w' → RdL d w' v ts := by
  intro d
  induction d with
  | zero => intro w w' v ts h _; exact h
  | succ d ih =>
    intro w w' v ts h hb
    obtain ⟨a, c, rfl, h1⟩ := h
    refine ⟨a, c, rfl, fun i t ht => ?_⟩
    obtain ⟨b, o, lv, h2, h4, h5⟩ := h1 i t ht
    exact ⟨b, o, lv, h2, h4.later hb, ih h5 hb⟩

/-- The contract of the law's measure of a list. -/
def SzS (d : Nat) : Prop := ∀ (v : Value) (ts : List (Tm d)) (left : Int) (w : World), RdL d w v ts → WfL d ts → 0 ≤ left → left ≤ 1048576 →
  Calls Try.prog 90 #[v, .int .i64 left] w fun e w' => e = .returned (.int .i64 (lft left (szL d ts))) ∧ Below w.heap.size w w'

set_option maxHeartbeats 400000 in
theorem szTerm_of (d : Nat) (H : SzS d) (k n : Int) (s : ByteArray) (lv : Value) (ts : List (Tm d)) (left : Int) (w : World) (hr : RdL d w lv ts) (hw : WfL d ts) (hs : s.size ≤ maxLen) (h0 : 0 ≤ left) (h1 : left ≤ 1048576) :
    Calls Try.prog 76 #[.agg #[.int .i64 k, .int .i64 n, .string s, lv], .int .i64 left] w fun e w' => e = .returned (.int .i64 (lft left (s.size + szL d ts))) ∧ Below w.heap.size w w' := by
  unfold maxLen at hs
  by_cases hlt : left < s.size
  · have HF : Hid ((-1 : Int) = lft left (s.size + szL d ts)) := by unfold lft; rw [if_neg (by omega)]; exact rfl
    go_enter Try.func76, Try.ntmps76
    go_wp2
    go_ret
    exact ⟨tret1 HF.out, (Below.refl _ _).alloc (Nat.le_refl _) _⟩
  · have hA : Below w.heap.size w (w.alloc (Obj.cells #[Value.int IntKind.i64 k, Value.int IntKind.i64 n, Value.string s, lv] 77)) := (Below.refl _ _).alloc (Nat.le_refl _) _
    have hC := H lv ts (left - s.size) _ (hr.later hA) hw (by omega) (by omega)
    obtain ⟨x, hx⟩ : ∃ x, lft (left - s.size) (szL d ts) = x := ⟨_, rfl⟩
    rw [hx] at hC
    by_cases hneg : x < 0
    · have HF : Hid ((-1 : Int) = lft left (s.size + szL d ts)) := by
        unfold lft at hx ⊢
        by_cases h2 : (szL d ts : Int) ≤ left - s.size
        · rw [if_pos h2] at hx; omega
        · rw [if_neg (by omega)]; exact rfl
      clear hx
      go_enter Try.func76, Try.ntmps76
      go_wp2_with fail
      refine hC.mono ?_
      clear hC
      rintro e w1 ⟨rfl, hb1⟩
      have hb2 : Below w.heap.size w w1 := hA.trans (hb1.mono (by simp))
      clear hb1 hA
      go_wp2
      go_ret
      exact ⟨tret1 HF.out, hb2⟩
    · have HF : Hid (x = lft left (s.size + szL d ts)) := by
        unfold lft at hx ⊢
        by_cases h2 : (szL d ts : Int) ≤ left - s.size
        · rw [if_pos h2] at hx; rw [if_pos (by omega), ← hx]; show _ = _; omega
        · rw [if_neg h2] at hx; omega
      clear hx
      go_enter Try.func76, Try.ntmps76
      go_wp2_with fail
      refine hC.mono ?_
      clear hC
      rintro e w1 ⟨rfl, hb1⟩
      have hb2 : Below w.heap.size w w1 := hA.trans (hb1.mono (by simp))
      clear hb1 hA
      go_wp2
      go_ret
      exact ⟨tret1 HF.out, hb2⟩

/-- The measure of the first terms of a list. -/
def szP (d : Nat) (ts : List (Tm (d + 1))) (i : Nat) : Nat := ((ts.take i).map fun t => t.S.size + szL d t.L).sum

theorem szP_succ (d : Nat) (ts : List (Tm (d + 1))) (i : Nat) (t : Tm (d + 1)) (h : ts[i]? = some t) : szP d ts (i + 1) = szP d ts i + (t.S.size + szL d t.L) := by
  have hl := (List.getElem?_eq_some_iff.1 h).1
  have he := (List.getElem?_eq_some_iff.1 h).2
  unfold szP
  rw [List.take_succ_eq_append_getElem hl, he]
  simp

theorem szP_le (d : Nat) (ts : List (Tm (d + 1))) (i : Nat) : szP d ts i ≤ (ts.map fun t => t.S.size + szL d t.L).sum := by
  unfold szP
  conv => rhs; rw [← List.take_append_drop i ts]
  rw [List.map_append, List.sum_append]
  omega

theorem szP_all (d : Nat) (ts : List (Tm (d + 1))) : ts.length + szP d ts ts.length = szL (d + 1) ts := by
  unfold szP
  rw [List.take_length]
  rfl

set_option maxHeartbeats 1000000 in
theorem szTermS_any : ∀ d, SzS d := by
  intro d
  induction d with
  | zero =>
    intro v ts left w hr hw h0 h1
    obtain ⟨a, c, rfl⟩ := hr
    have HF : Hid (left = lft left (szL 0 ts)) := by show _ = _; unfold lft szL; rw [if_pos (by omega)]; omega
    go_enter Try.func90, Try.ntmps90
    go_wp2
    refine wp_loop_rounds 1 ?_
    rw [rounds_succ]
    go_wp2
    go_ret
    exact ⟨tret1 HF.out, Below.refl _ _⟩
  | succ d ih =>
    intro v ts left w hr hw h0 h1
    have HT := szTerm_of d ih
    obtain ⟨a, c, rfl, hel⟩ := hr
    have HE : Hid (∀ (i : Nat) (t : Tm (d + 1)), ts[i]? = some t → ∃ b o lv, a = some ⟨b, o, none⟩ ∧ Four w b (o + i * 4) t.K t.N t.S lv ∧ RdL d w lv t.L) := hel
    have HW : Hid (WfL (d + 1) ts) := hw
    have hm : ts.length ≤ 9223372036854775807 := hw.1
    clear hel hw
    obtain ⟨len, hlen⟩ : ∃ len, ts.length = len := ⟨_, rfl⟩
    have HLN : Hid (ts.length = len) := hlen
    rw [hlen] at hm ⊢
    clear hlen ih
    by_cases hlt : left < len
    · have HF : Hid ((-1 : Int) = lft left (szL (d + 1) ts)) := by show _ = _; have := szP_all d ts; rw [HLN.out] at this; unfold lft; rw [if_neg (by omega)]
      go_enter Try.func90, Try.ntmps90
      go_wp2
      go_ret
      exact ⟨tret1 HF.out, Below.refl _ _⟩
    · go_enter Try.func90, Try.ntmps90
      go_wp2_with fail
      go_loopw [1, 5] (fun x i wr => ∃ k : Nat, k ≤ len ∧ i = .int .i64 k ∧ x = .int .i64 (left - len - szP d ts k) ∧ 0 ≤ left - (len : Int) - szP d ts k ∧ Below w.heap.size w wr) (fun _ i _ => len - (intOf i).toNat)
      case atStart => exact ⟨0, Nat.zero_le _, rfl, by simp [szP], by simp [szP]; omega, Below.refl _ _⟩
      case round =>
        obtain ⟨k, hk, rfl, rfl, hx0, hb⟩ := hrel
        obtain ⟨x, hx⟩ : ∃ x, left - (len : Int) - szP d ts k = x := ⟨_, rfl⟩
        have HX : Hid (left - (len : Int) - szP d ts k = x) := hx
        rw [hx] at hx0 ⊢
        have hx1 : x ≤ 1048576 := by omega
        clear hx
        by_cases hkl : k < len
        · obtain ⟨t, ht⟩ : ∃ t, ts[k]? = some t := ⟨_, List.getElem?_eq_getElem (by rw [HLN.out]; exact hkl)⟩
          obtain ⟨b, o, lv, rfl, hF, hL⟩ := HE.out k t ht
          obtain ⟨_, _, hs, hwt⟩ := HW.out.2 t (List.mem_of_getElem? ht)
          obtain ⟨f0, f1, f2, f3⟩ := hF.later hb
          have hC := HT t.K t.N t.S lv t.L x wr (hL.later hb) hwt hs hx0 hx1
          have hstep := szP_succ d ts k t ht
          obtain ⟨y, hy⟩ : ∃ y, lft x (t.S.size + szL d t.L) = y := ⟨_, rfl⟩
          rw [hy] at hC
          clear hF hL
          by_cases hneg : y < 0
          · have HF : Hid ((-1 : Int) = lft left (szL (d + 1) ts)) := by
              have h1 := szP_all d ts
              have h2 := szP_le d ts (k + 1)
              have h3 := HX.out
              have h5 := HLN.out
              have h6 : szL (d + 1) ts = ts.length + (ts.map fun t => t.S.size + szL d t.L).sum := rfl
              unfold lft at hy
              show _ = _
              by_cases h4 : ((t.S.size + szL d t.L : Nat) : Int) ≤ x
              · rw [if_pos h4] at hy; omega
              · unfold lft; rw [if_neg (by omega)]
            clear hy hstep HT HX
            go_wp2_with fail
            refine hC.mono ?_
            clear hC
            rintro e w1 ⟨rfl, hb1⟩
            have hb2 : Below w.heap.size w w1 := hb.trans (hb1.mono hb.size)
            clear hb1 hb f0 f1 f2 f3
            go_wp2
            go_ret
            exact ⟨tret1 HF.out, hb2⟩
          · have HY : Hid (y = left - (len : Int) - szP d ts (k + 1) ∧ 0 ≤ left - (len : Int) - szP d ts (k + 1)) := by
              have h3 := HX.out
              unfold lft at hy
              by_cases h4 : ((t.S.size + szL d t.L : Nat) : Int) ≤ x
              · rw [if_pos h4] at hy; show _ ∧ _; omega
              · rw [if_neg h4] at hy; omega
            clear hy hstep HT HX
            go_wp2_with fail
            refine hC.mono ?_
            clear hC
            rintro e w1 ⟨rfl, hb1⟩
            have hb2 : Below w.heap.size w w1 := hb.trans (hb1.mono hb.size)
            clear hb1 hb f0 f1 f2 f3
            go_wp2
            go_roundw
            case rel => exact ⟨k + 1, by omega, by go_num, by rw [HY.out.1], HY.out.2, hb2⟩
            case measure => simp [intOf]; omega
        · have HF : Hid (x = lft left (szL (d + 1) ts)) := by
            have h1 := szP_all d ts
            have h3 := HX.out
            have h5 := HLN.out
            have hk' : k = ts.length := by omega
            rw [hk'] at h3
            unfold lft; rw [if_pos (by omega)]; show _ = _; omega
          clear HT HX
          go_wp2
          go_ret
          exact ⟨tret1 HF.out, hb⟩
end Go.Proofs.Ytgmddookohkhlaa
