/- Terms as plain data, how they lie in memory, and the law's own measure of them. -/
import Derived.Test.YtgmddookohkhlaaRows
import Derived.WalkKit
import Derived.WalkSpells
import Derived.WalkLawsBesides
import Derived.BigQuiet
import Derived.Deep.QuietTactic
import Derived.Deep.RegionWith
namespace Go.Proofs.Ytgmddookohkhlaa
open Go.RowKit

/-- A term of at most d storeys: its kind, its number, its text, what is in it. -/
def Tm : Nat → Type
  | 0 => Empty
  | d + 1 => Int × Int × ByteArray × List (Tm d)

def Tm.K {d : Nat} (t : Tm (d + 1)) : Int := t.1
def Tm.N {d : Nat} (t : Tm (d + 1)) : Int := t.2.1
def Tm.S {d : Nat} (t : Tm (d + 1)) : ByteArray := t.2.2.1
def Tm.L {d : Nat} (t : Tm (d + 1)) : List (Tm d) := t.2.2.2

/-- Four cells that hold a term's fields. -/
def Four (w : World) (b o : Nat) (k n : Int) (s : ByteArray) (v : Value) : Prop :=
  w.cell? ⟨b, o, none⟩ = some (.int .i64 k) ∧ w.cell? ⟨b, o + 1, none⟩ = some (.int .i64 n) ∧ w.cell? ⟨b, o + 2, none⟩ = some (.string s) ∧ w.cell? ⟨b, o + 3, none⟩ = some v

/-- A value that is a slice of the terms ts. -/
def RdL : (d : Nat) → World → Value → List (Tm d) → Prop
  | 0, _, v, _ => ∃ a c, v = .slice a 0 c
  | d + 1, w, v, ts => ∃ a c, v = .slice a ts.length c ∧ ∀ (i : Nat) (t : Tm (d + 1)), ts[i]? = some t → ∃ b o lv, a = some ⟨b, o, none⟩ ∧ Four w b (o + i * 4) t.K t.N t.S lv ∧ RdL d w lv t.L

/-- That a 64-bit int holds it. -/
def I64 (n : Int) : Prop := -9223372036854775808 ≤ n ∧ n ≤ 9223372036854775807

/-- What every list of terms that is in memory is within. -/
def WfL : (d : Nat) → List (Tm d) → Prop
  | 0, _ => True
  | d + 1, ts => ts.length ≤ 9223372036854775807 ∧ ∀ t ∈ ts, I64 t.K ∧ I64 t.N ∧ t.S.size ≤ maxLen ∧ WfL d t.L

/-- How great a list of terms is: each of them, each letter. -/
def szL : (d : Nat) → List (Tm d) → Nat
  | 0, _ => 0
  | d + 1, ts => ts.length + (ts.map fun t => t.S.size + szL d t.L).sum

/-- What is left of a measure. -/
def lft (left : Int) (n : Nat) : Int := if (n : Int) ≤ left then left - n else -1

theorem tret1 {a b : Int} (h : a = b) : Ending.returned (.int .i64 a) = .returned (.int .i64 b) := by rw [h]

theorem Four.later {w w' : World} {b o : Nat} {k n : Int} {s : ByteArray} {v : Value} (h : Four w b o k n s v) (hb : Below w.heap.size w w') : Four w' b o k n s v :=
  ⟨cell_later hb h.1, cell_later hb h.2.1, cell_later hb h.2.2.1, cell_later hb h.2.2.2⟩

theorem RdL.later : ∀ {d : Nat} {w w' : World} {v : Value} {ts : List (Tm d)}, RdL d w v ts → Below w.heap.size w w' → RdL d w' v ts := by
  intro d
  induction d with
  | zero => intro w w' v ts h _; exact h
  | succ d ih =>
    intro w w' v ts h hb
    obtain ⟨a, c, rfl, h1⟩ := h
    refine ⟨a, c, rfl, fun i t ht => ?_⟩
    obtain ⟨b, o, lv, h2, h4, h5⟩ := h1 i t ht
    exact ⟨b, o, lv, h2, h4.later hb, ih h5 hb⟩

/-- The contract of the law's measure of a list. -/
def SzS (d : Nat) : Prop := ∀ (v : Value) (ts : List (Tm d)) (left : Int) (w : World), RdL d w v ts → WfL d ts → 0 ≤ left → left ≤ 1048576 →
  Calls Try.prog 90 #[v, .int .i64 left] w fun e w' => e = .returned (.int .i64 (lft left (szL d ts))) ∧ Below w.heap.size w w'

set_option maxHeartbeats 400000 in
theorem szTerm_of (d : Nat) (H : SzS d) (k n : Int) (s : ByteArray) (lv : Value) (ts : List (Tm d)) (left : Int) (w : World) (hr : RdL d w lv ts) (hw : WfL d ts) (hs : s.size ≤ maxLen) (h0 : 0 ≤ left) (h1 : left ≤ 1048576) :
    Calls Try.prog 76 #[.agg #[.int .i64 k, .int .i64 n, .string s, lv], .int .i64 left] w fun e w' => e = .returned (.int .i64 (lft left (s.size + szL d ts))) ∧ Below w.heap.size w w' := by
  unfold maxLen at hs
  by_cases hlt : left < s.size
  · have HF : Hid ((-1 : Int) = lft left (s.size + szL d ts)) := by unfold lft; rw [if_neg (by omega)]; exact rfl
    go_enter Try.func76, Try.ntmps76
    go_wp2
    go_ret
    exact ⟨tret1 HF.out, (Below.refl _ _).alloc (Nat.le_refl _) _⟩
  · have hA : Below w.heap.size w (w.alloc (Obj.cells #[Value.int IntKind.i64 k, Value.int IntKind.i64 n, Value.string s, lv] 77)) := (Below.refl _ _).alloc (Nat.le_refl _) _
    have hC := H lv ts (left - s.size) _ (hr.later hA) hw (by omega) (by omega)
    obtain ⟨x, hx⟩ : ∃ x, lft (left - s.size) (szL d ts) = x := ⟨_, rfl⟩
    rw [hx] at hC
    by_cases hneg : x < 0
    · have HF : Hid ((-1 : Int) = lft left (s.size + szL d ts)) := by
        unfold lft at hx ⊢
        by_cases h2 : (szL d ts : Int) ≤ left - s.size
        · rw [if_pos h2] at hx; omega
        · rw [if_neg (by omega)]; exact rfl
      clear hx
      go_enter Try.func76, Try.ntmps76
      go_wp2_with fail
      refine hC.mono ?_
      clear hC
      rintro e w1 ⟨rfl, hb1⟩
      have hb2 : Below w.heap.size w w1 := hA.trans (hb1.mono (by simp))
      clear hb1 hA
      go_wp2
      go_ret
      exact ⟨tret1 HF.out, hb2⟩
    · have HF : Hid (x = lft left (s.size + szL d ts)) := by
        unfold lft at hx ⊢
        by_cases h2 : (szL d ts : Int) ≤ left - s.size
        · rw [if_pos h2] at hx; rw [if_pos (by omega), ← hx]; show _ = _; omega
        · rw [if_neg h2] at hx; omega
      clear hx
      go_enter Try.func76, Try.ntmps76
      go_wp2_with fail
      refine hC.mono ?_
      clear hC
      rintro e w1 ⟨rfl, hb1⟩
      have hb2 : Below w.heap.size w w1 := hA.trans (hb1.mono (by simp))
      clear hb1 hA
      go_wp2
      go_ret
      exact ⟨tret1 HF.out, hb2⟩

/-- The measure of the first terms of a list. -/
def szP (d : Nat) (ts : List (Tm (d + 1))) (i : Nat) : Nat := ((ts.take i).map fun t => t.S.size + szL d t.L).sum

theorem szP_succ (d : Nat) (ts : List (Tm (d + 1))) (i : Nat) (t : Tm (d + 1)) (h : ts[i]? = some t) : szP d ts (i + 1) = szP d ts i + (t.S.size + szL d t.L) := by
  have hl := (List.getElem?_eq_some_iff.1 h).1
  have he := (List.getElem?_eq_some_iff.1 h).2
  unfold szP
  rw [List.take_succ_eq_append_getElem hl, he]
  simp

theorem szP_le (d : Nat) (ts : List (Tm (d + 1))) (i : Nat) : szP d ts i ≤ (ts.map fun t => t.S.size + szL d t.L).sum := by
  unfold szP
  conv => rhs; rw [← List.take_append_drop i ts]
  rw [List.map_append, List.sum_append]
  omega

theorem szP_all (d : Nat) (ts : List (Tm (d + 1))) : ts.length + szP d ts ts.length = szL (d + 1) ts := by
  unfold szP
  rw [List.take_length]
  rfl

set_option maxHeartbeats 1000000 in
theorem szTermS_any : ∀ d, SzS d := by
  intro d
  induction d with
  | zero =>
    intro v ts left w hr hw h0 h1
    obtain ⟨a, c, rfl⟩ := hr
    have HF : Hid (left = lft left (szL 0 ts)) := by show _ = _; unfold lft szL; rw [if_pos (by omega)]; omega
    go_enter Try.func90, Try.ntmps90
    go_wp2
    refine wp_loop_rounds 1 ?_
    rw [rounds_succ]
    go_wp2
    go_ret
    exact ⟨tret1 HF.out, Below.refl _ _⟩
  | succ d ih =>
    intro v ts left w hr hw h0 h1
    have HT := szTerm_of d ih
    obtain ⟨a, c, rfl, hel⟩ := hr
    have HE : Hid (∀ (i : Nat) (t : Tm (d + 1)), ts[i]? = some t → ∃ b o lv, a = some ⟨b, o, none⟩ ∧ Four w b (o + i * 4) t.K t.N t.S lv ∧ RdL d w lv t.L) := hel
    have HW : Hid (WfL (d + 1) ts) := hw
    have hm : ts.length ≤ 9223372036854775807 := hw.1
    clear hel hw
    obtain ⟨len, hlen⟩ : ∃ len, ts.length = len := ⟨_, rfl⟩
    have HLN : Hid (ts.length = len) := hlen
    rw [hlen] at hm ⊢
    clear hlen ih
    by_cases hlt : left < len
    · have HF : Hid ((-1 : Int) = lft left (szL (d + 1) ts)) := by show _ = _; have := szP_all d ts; rw [HLN.out] at this; unfold lft; rw [if_neg (by omega)]
      go_enter Try.func90, Try.ntmps90
      go_wp2
      go_ret
      exact ⟨tret1 HF.out, Below.refl _ _⟩
    · go_enter Try.func90, Try.ntmps90
      go_wp2_with fail
      go_loopw [1, 5] (fun x i wr => ∃ k : Nat, k ≤ len ∧ i = .int .i64 k ∧ x = .int .i64 (left - len - szP d ts k) ∧ 0 ≤ left - (len : Int) - szP d ts k ∧ Below w.heap.size w wr) (fun _ i _ => len - (intOf i).toNat)
      case atStart => exact ⟨0, Nat.zero_le _, rfl, by simp [szP], by simp [szP]; omega, Below.refl _ _⟩
      case round =>
        obtain ⟨k, hk, rfl, rfl, hx0, hb⟩ := hrel
        obtain ⟨x, hx⟩ : ∃ x, left - (len : Int) - szP d ts k = x := ⟨_, rfl⟩
        have HX : Hid (left - (len : Int) - szP d ts k = x) := hx
        rw [hx] at hx0 ⊢
        have hx1 : x ≤ 1048576 := by omega
        clear hx
        by_cases hkl : k < len
        · obtain ⟨t, ht⟩ : ∃ t, ts[k]? = some t := ⟨_, List.getElem?_eq_getElem (by rw [HLN.out]; exact hkl)⟩
          obtain ⟨b, o, lv, rfl, hF, hL⟩ := HE.out k t ht
          obtain ⟨_, _, hs, hwt⟩ := HW.out.2 t (List.mem_of_getElem? ht)
          obtain ⟨f0, f1, f2, f3⟩ := hF.later hb
          have hC := HT t.K t.N t.S lv t.L x wr (hL.later hb) hwt hs hx0 hx1
          have hstep := szP_succ d ts k t ht
          obtain ⟨y, hy⟩ : ∃ y, lft x (t.S.size + szL d t.L) = y := ⟨_, rfl⟩
          rw [hy] at hC
          clear hF hL
          by_cases hneg : y < 0
          · have HF : Hid ((-1 : Int) = lft left (szL (d + 1) ts)) := by
              have h1 := szP_all d ts
              have h2 := szP_le d ts (k + 1)
              have h3 := HX.out
              have h5 := HLN.out
              have h6 : szL (d + 1) ts = ts.length + (ts.map fun t => t.S.size + szL d t.L).sum := rfl
              unfold lft at hy
              show _ = _
              by_cases h4 : ((t.S.size + szL d t.L : Nat) : Int) ≤ x
              · rw [if_pos h4] at hy; omega
              · unfold lft; rw [if_neg (by omega)]
            clear hy hstep HT HX
            go_wp2_with fail
            refine hC.mono ?_
            clear hC
            rintro e w1 ⟨rfl, hb1⟩
            have hb2 : Below w.heap.size w w1 := hb.trans (hb1.mono hb.size)
            clear hb1 hb f0 f1 f2 f3
            go_wp2
            go_ret
            exact ⟨tret1 HF.out, hb2⟩
          · have HY : Hid (y = left - (len : Int) - szP d ts (k + 1) ∧ 0 ≤ left - (len : Int) - szP d ts (k + 1)) := by
              have h3 := HX.out
              unfold lft at hy
              by_cases h4 : ((t.S.size + szL d t.L : Nat) : Int) ≤ x
              · rw [if_pos h4] at hy; show _ ∧ _; omega
              · rw [if_neg h4] at hy; omega
            clear hy hstep HT HX
            go_wp2_with fail
            refine hC.mono ?_
            clear hC
            rintro e w1 ⟨rfl, hb1⟩
            have hb2 : Below w.heap.size w w1 := hb.trans (hb1.mono hb.size)
            clear hb1 hb f0 f1 f2 f3
            go_wp2
            go_roundw
            case rel => exact ⟨k + 1, by omega, by go_num, by rw [HY.out.1], HY.out.2, hb2⟩
            case measure => simp [intOf]; omega
        · have HF : Hid (x = lft left (szL (d + 1) ts)) := by
            have h1 := szP_all d ts
            have h3 := HX.out
            have h5 := HLN.out
            have hk' : k = ts.length := by omega
            rw [hk'] at h3
            unfold lft; rw [if_pos (by omega)]; show _ = _; omega
          clear HT HX
          go_wp2
          go_ret
          exact ⟨tret1 HF.out, hb⟩
end Go.Proofs.Ytgmddookohkhlaa

/- The law's own deep copy of terms: a tree in new memory, no block of which is met twice. -/
namespace Go.Proofs.Ytgmddookohkhlaa
open Go.RowKit

/-- A value that is a slice of the terms ts, in blocks fp of the call's own. -/
def OwnL : (d : Nat) → World → Value → List (Tm d) → List Nat → Prop
  | 0, _, v, _, fp => (∃ a c, v = .slice a 0 c) ∧ fp = []
  | d + 1, w, v, ts, fp => (ts = [] ∧ fp = [] ∧ ∃ a c, v = .slice a 0 c) ∨
      ∃ (g c : Nat) (cur : Array Value) (fps : List (List Nat)), v = .slice (some ⟨g, 0, none⟩) ts.length c ∧ w.heap[g]? = some (.cells cur 53 (0, 0)) ∧ fps.length = ts.length ∧ fp = g :: fps.flatten ∧
        ∀ (i : Nat) (t : Tm (d + 1)), ts[i]? = some t → ∃ lv f, fps[i]? = some f ∧ cur[i * 4]? = some (.int .i64 t.K) ∧ cur[i * 4 + 1]? = some (.int .i64 t.N) ∧ cur[i * 4 + 2]? = some (.string t.S) ∧ cur[i * 4 + 3]? = some lv ∧ OwnL d w lv t.L f

/-- The blocks are all unlike, and none is older than B. -/
def Fresh (B : Nat) (w : World) (fp : List Nat) : Prop := fp.Nodup ∧ ∀ g ∈ fp, B ≤ g ∧ g < w.heap.size

theorem OwnL.frame : ∀ {d : Nat} {w w' : World} {v : Value} {ts : List (Tm d)} {fp : List Nat}, OwnL d w v ts fp → (∀ g ∈ fp, w'.heap[g]? = w.heap[g]?) → OwnL d w' v ts fp := by
  intro d
  induction d with
  | zero => intro w w' v ts fp h _; exact h
  | succ d ih =>
    intro w w' v ts fp h hh
    rcases h with h | ⟨g, c, cur, fps, h1, h2, h3, rfl, h4⟩
    · exact .inl h
    · refine .inr ⟨g, c, cur, fps, h1, by rw [hh g (List.mem_cons_self ..)]; exact h2, h3, rfl, fun i t ht => ?_⟩
      obtain ⟨lv, f, e1, e2, e3, e4, e5, e6⟩ := h4 i t ht
      exact ⟨lv, f, e1, e2, e3, e4, e5, ih e6 fun k hk => hh k (List.mem_cons_of_mem _ (List.mem_flatten.2 ⟨f, List.mem_of_getElem? e1, hk⟩))⟩

theorem OwnL.rd : ∀ {d : Nat} {w : World} {v : Value} {ts : List (Tm d)} {fp : List Nat}, OwnL d w v ts fp → RdL d w v ts := by
  intro d
  induction d with
  | zero => intro w v ts fp h; exact h.1
  | succ d ih =>
    intro w v ts fp h
    rcases h with ⟨rfl, _, a, c, rfl⟩ | ⟨g, c, cur, fps, h1, h2, h3, rfl, h4⟩
    · exact ⟨a, c, rfl, fun i t ht => by simp at ht⟩
    · refine ⟨_, c, h1, fun i t ht => ?_⟩
      obtain ⟨lv, f, e1, e2, e3, e4, e5, e6⟩ := h4 i t ht
      refine ⟨g, 0, lv, rfl, ?_, ih e6⟩
      have hc := fun j => cell_of_row w g j cur 53 (0, 0) h2
      exact ⟨by rw [hc, ← e2, Nat.zero_add], by rw [hc, ← e3, Nat.zero_add], by rw [hc, ← e4, Nat.zero_add], by rw [hc, ← e5, Nat.zero_add]⟩

/-- The contract of the copy of a list. -/
def ToS (d : Nat) : Prop := ∀ (v : Value) (ts : List (Tm d)) (w : World), RdL d w v ts → WfL d ts → szL d ts ≤ 1048576 →
  Calls Try.prog 92 #[v] w fun e w' => ∃ a l c fp, e = .returned (.slice a l c) ∧ OwnL d w' (.slice a l c) ts fp ∧ Fresh w.heap.size w' fp ∧ Below w.heap.size w w'

theorem bcell {W w1 : World} (hb : Below W.heap.size W w1) : (∀ b o, b < W.heap.size → w1.cell? ⟨b, o, none⟩ = W.cell? ⟨b, o, none⟩) ∧ (∀ b o, b < W.heap.size → w1.frozen? ⟨b, o, none⟩ = W.frozen? ⟨b, o, none⟩) :=
  ⟨fun b o h => hb.cell (p := ⟨b, o, none⟩) h, fun b o h => hb.frozen (p := ⟨b, o, none⟩) h⟩

set_option maxHeartbeats 1000000 in
theorem toTerm_of (d : Nat) (H : ToS d) (k n : Int) (s : ByteArray) (lv : Value) (ts : List (Tm d)) (w : World) (hr : RdL d w lv ts) (hw : WfL d ts) (hz : szL d ts ≤ 1048576) :
    Calls Try.prog 78 #[.agg #[.int .i64 k, .int .i64 n, .string s, lv]] w fun e w' => ∃ a l c fp, e = .returned (.agg #[.int .i64 k, .int .i64 n, .string s, .slice a l c]) ∧ OwnL d w' (.slice a l c) ts fp ∧ Fresh w.heap.size w' fp ∧ Below w.heap.size w w' := by
  obtain ⟨W, hW⟩ : ∃ W, W = (((w.alloc (.cells #[.int .i64 k, .int .i64 n, .string s, lv] 77)).alloc (.cells #[.int .i64 0, .int .i64 0, .string ⟨#[]⟩, .slice none 0 0] 53)).alloc (.cells #[.int .i64 k, .int .i64 n, .string s, .slice none 0 0] 53)) := ⟨_, rfl⟩
  have hWs : W.heap.size = w.heap.size + 1 + 1 + 1 := by rw [hW]; simp
  have hWb : Below w.heap.size w W := by rw [hW]; exact (((Below.refl _ _).alloc (Nat.le_refl _) _).alloc (by simp) _).alloc (by simp; omega) _
  have hWc2 : W.heap[w.heap.size + 1 + 1]? = some (.cells #[.int .i64 k, .int .i64 n, .string s, .slice none 0 0] 53 (0, 0)) := by
    rw [hW]; have := heap_alloc_new ((w.alloc (.cells #[.int .i64 k, .int .i64 n, .string s, lv] 77)).alloc (.cells #[.int .i64 0, .int .i64 0, .string ⟨#[]⟩, .slice none 0 0] 53)) (.cells #[.int .i64 k, .int .i64 n, .string s, .slice none 0 0] 53)
    simpa using this
  have hWc1 : W.heap[w.heap.size + 1]? = some (.cells #[.int .i64 0, .int .i64 0, .string ⟨#[]⟩, .slice none 0 0] 53 (0, 0)) := by
    rw [hW, Below.heap_alloc _ _ _ (by simp)]
    have := heap_alloc_new (w.alloc (.cells #[.int .i64 k, .int .i64 n, .string s, lv] 77)) (.cells #[.int .i64 0, .int .i64 0, .string ⟨#[]⟩, .slice none 0 0] 53)
    simpa using this
  have hC := H lv ts W (hr.later hWb) hw hz
  rw [hW] at hC
  have HW : Hid (W = _) := hW
  clear hW hr hw H
  go_enter Try.func78, Try.ntmps78
  go_wp2_with fail
  refine hC.mono ?_
  clear hC
  rintro e w1 ⟨a', l', c', fp, rfl, hown, hfr, hb⟩
  rw [← HW.out] at hfr hb
  have hh2 : w1.heap[w.heap.size + 1 + 1]? = _ := (hb.block _ (by omega)).trans hWc2
  have hh1 : w1.heap[w.heap.size + 1]? = _ := (hb.block _ (by omega)).trans hWc1
  have a0 : w1.cell? ⟨w.heap.size + 1 + 1, 0, none⟩ = some (.int .i64 k) := by rw [cell_of_row w1 _ 0 _ _ _ hh2]; rfl
  have a1 : w1.cell? ⟨w.heap.size + 1 + 1, 1, none⟩ = some (.int .i64 n) := by rw [cell_of_row w1 _ 1 _ _ _ hh2]; rfl
  have a2 : w1.cell? ⟨w.heap.size + 1 + 1, 2, none⟩ = some (.string s) := by rw [cell_of_row w1 _ 2 _ _ _ hh2]; rfl
  have a3 : w1.cell? ⟨w.heap.size + 1 + 1, 3, none⟩ = some (.slice none 0 0) := by rw [cell_of_row w1 _ 3 _ _ _ hh2]; rfl
  have z3 : w1.frozen? ⟨w.heap.size + 1 + 1, 3, none⟩ = false := frozen_of_row w1 _ 3 _ _ hh2
  have b0 : w1.cell? ⟨w.heap.size + 1, 0, none⟩ = some (.int .i64 0) := by rw [cell_of_row w1 _ 0 _ _ _ hh1]; rfl
  have b1 : w1.cell? ⟨w.heap.size + 1, 1, none⟩ = some (.int .i64 0) := by rw [cell_of_row w1 _ 1 _ _ _ hh1]; rfl
  have b2 : w1.cell? ⟨w.heap.size + 1, 2, none⟩ = some (.string ⟨#[]⟩) := by rw [cell_of_row w1 _ 2 _ _ _ hh1]; rfl
  have b3 : w1.cell? ⟨w.heap.size + 1, 3, none⟩ = some (.slice none 0 0) := by rw [cell_of_row w1 _ 3 _ _ _ hh1]; rfl
  have y0 : w1.frozen? ⟨w.heap.size + 1, 0, none⟩ = false := frozen_of_row w1 _ 0 _ _ hh1
  have y1 : w1.frozen? ⟨w.heap.size + 1, 1, none⟩ = false := frozen_of_row w1 _ 1 _ _ hh1
  have y2 : w1.frozen? ⟨w.heap.size + 1, 2, none⟩ = false := frozen_of_row w1 _ 2 _ _ hh1
  have y3 : w1.frozen? ⟨w.heap.size + 1, 3, none⟩ = false := frozen_of_row w1 _ 3 _ _ hh1
  have HB : Hid (Below W.heap.size W w1) := hb
  clear hh1 hh2 hWc1 hWc2 hb HW
  go_wp2
  refine bodyPost_ret (v := .agg #[.int .i64 k, .int .i64 n, .string s, .slice a' l' c']) (by simp [results, Try.results78, go_sem, b0, b1, b2, b3]) rfl ⟨a', l', c', fp, rfl, ?_, ?_, ?_⟩
  · refine hown.frame fun g hg => ?_
    have := (hfr.2 g hg).1
    rw [heap_setCell_other _ _ _ _ (by simp; omega), heap_setCell_other _ _ _ _ (by simp; omega), heap_setCell_other _ _ _ _ (by simp; omega), heap_setCell_other _ _ _ _ (by simp; omega), heap_setCell_other _ _ _ _ (by simp; omega)]
  · exact ⟨hfr.1, fun g hg => ⟨by have := (hfr.2 g hg).1; omega, by have := (hfr.2 g hg).2; simpa using this⟩⟩
  · have h1 : Below w.heap.size w w1 := hWb.trans (HB.out.mono (by omega))
    exact ((((h1.setCell (by simp; omega) _).setCell (by simp) _).setCell (by simp) _).setCell (by simp) _).setCell (by simp) _

/-- Four cells of a row written anew. -/
def put4 (cur : Array Value) (o : Nat) (a b c d : Value) : Array Value := (((cur.setIfInBounds o a).setIfInBounds (o + 1) b).setIfInBounds (o + 2) c).setIfInBounds (o + 3) d

theorem put4_size (cur : Array Value) (o : Nat) (a b c d : Value) : (put4 cur o a b c d).size = cur.size := by simp [put4]
theorem put4_other (cur : Array Value) (o : Nat) (a b c d : Value) (j : Nat) (h : j < o ∨ o + 3 < j) : (put4 cur o a b c d)[j]? = cur[j]? := by
  unfold put4
  rw [Array.getElem?_setIfInBounds_ne (by omega), Array.getElem?_setIfInBounds_ne (by omega), Array.getElem?_setIfInBounds_ne (by omega), Array.getElem?_setIfInBounds_ne (by omega)]
theorem put4_at (cur : Array Value) (o : Nat) (a b c d : Value) (h : o + 3 < cur.size) : (put4 cur o a b c d)[o]? = some a ∧ (put4 cur o a b c d)[o + 1]? = some b ∧ (put4 cur o a b c d)[o + 2]? = some c ∧ (put4 cur o a b c d)[o + 3]? = some d := by
  unfold put4
  refine ⟨?_, ?_, ?_, ?_⟩
  · rw [Array.getElem?_setIfInBounds_ne (by omega), Array.getElem?_setIfInBounds_ne (by omega), Array.getElem?_setIfInBounds_ne (by omega), Array.getElem?_setIfInBounds_self]; simp; omega
  · rw [Array.getElem?_setIfInBounds_ne (by omega), Array.getElem?_setIfInBounds_ne (by omega), Array.getElem?_setIfInBounds_self]; simp; omega
  · rw [Array.getElem?_setIfInBounds_ne (by omega), Array.getElem?_setIfInBounds_self]; simp; omega
  · rw [Array.getElem?_setIfInBounds_self]; simp; omega

theorem stores4 (w : World) (g o : Nat) (cur : Array Value) (T : TypeId) (hh : w.heap[g]? = some (.cells cur T (0, 0))) (a b c d : Value) :
    ((((w.setCell ⟨g, o, none⟩ a).setCell ⟨g, o + 1, none⟩ b).setCell ⟨g, o + 2, none⟩ c).setCell ⟨g, o + 3, none⟩ d).heap[g]? = some (.cells (put4 cur o a b c d) T (0, 0)) ∧
    (∀ j, j ≠ g → ((((w.setCell ⟨g, o, none⟩ a).setCell ⟨g, o + 1, none⟩ b).setCell ⟨g, o + 2, none⟩ c).setCell ⟨g, o + 3, none⟩ d).heap[j]? = w.heap[j]?) := by
  constructor
  · exact heap_setCell_same _ g _ _ _ _ (heap_setCell_same _ g _ _ _ _ (heap_setCell_same _ g _ _ _ _ (heap_setCell_same w g _ _ _ _ hh)))
  · intro j hj
    rw [heap_setCell_other _ _ _ _ (by simp; omega), heap_setCell_other _ _ _ _ (by simp; omega), heap_setCell_other _ _ _ _ (by simp; omega), heap_setCell_other _ _ _ _ (by simp; omega)]

theorem stores4_below (w : World) (g o : Nat) (a b c d : Value) : Below g w ((((w.setCell ⟨g, o, none⟩ a).setCell ⟨g, o + 1, none⟩ b).setCell ⟨g, o + 2, none⟩ c).setCell ⟨g, o + 3, none⟩ d) := by
  have h1 := (Below.refl g w).setCell (p := ⟨g, o, none⟩) (Nat.le_refl g) a
  have h2 := h1.setCell (p := ⟨g, o + 1, none⟩) (Nat.le_refl g) b
  have h3 := h2.setCell (p := ⟨g, o + 2, none⟩) (Nat.le_refl g) c
  exact h3.setCell (p := ⟨g, o + 3, none⟩) (Nat.le_refl g) d
theorem stores4_size (w : World) (g o : Nat) (a b c d : Value) : ((((w.setCell ⟨g, o, none⟩ a).setCell ⟨g, o + 1, none⟩ b).setCell ⟨g, o + 2, none⟩ c).setCell ⟨g, o + 3, none⟩ d).heap.size = w.heap.size := by simp

theorem Try.infoTerm : (Try.prog.info? 53).map (fun i => (i.zero, i.size, i.bytes)) = some (some (.agg #[.int .i64 0, .int .i64 0, .string ⟨#[]⟩, .slice none 0 0]), 4, 56) := by kernel_rfl

/-- The first k terms of a list lie copied in the row at B. -/
def Done (d : Nat) (ts : List (Tm (d + 1))) (k : Nat) (w : World) (cur : Array Value) (fps : List (List Nat)) : Prop :=
  ∀ (i : Nat) (t : Tm (d + 1)), i < k → ts[i]? = some t → ∃ lv f, fps[i]? = some f ∧ cur[i * 4]? = some (.int .i64 t.K) ∧ cur[i * 4 + 1]? = some (.int .i64 t.N) ∧ cur[i * 4 + 2]? = some (.string t.S) ∧ cur[i * 4 + 3]? = some lv ∧ OwnL d w lv t.L f

theorem to_step {d : Nat} {ts : List (Tm (d + 1))} {B len k : Nat} {w wr w2 W : World} {cur : Array Value} {fps : List (List Nat)} {t : Tm (d + 1)} {lv : Value} {fp : List Nat}
    (hk : k < len) (hcs : cur.size = len * 4) (hfl : fps.length = k) (hnd : fps.flatten.Nodup) (hfr : ∀ g ∈ fps.flatten, B < g ∧ g < wr.heap.size) (hwz : B < wr.heap.size) (hb : Below B w wr) (hb2 : Below wr.heap.size wr w2)
    (hdone : Done d ts k wr cur fps) (ht : ts[k]? = some t) (hown : OwnL d w2 lv t.L fp) (hfr2 : Fresh wr.heap.size w2 fp)
    (hW1 : W.heap[B]? = some (.cells (put4 cur (k * 4) (.int .i64 t.K) (.int .i64 t.N) (.string t.S) lv) 53 (0, 0))) (hW2 : ∀ j, j ≠ B → W.heap[j]? = w2.heap[j]?) (hWs : W.heap.size = w2.heap.size) (hWb : Below B w2 W) :
    (put4 cur (k * 4) (.int .i64 t.K) (.int .i64 t.N) (.string t.S) lv).size = len * 4 ∧ (fps ++ [fp]).length = k + 1 ∧ (fps ++ [fp]).flatten.Nodup ∧ (∀ g ∈ (fps ++ [fp]).flatten, B < g ∧ g < W.heap.size) ∧ Below B w W ∧
      Done d ts (k + 1) W (put4 cur (k * 4) (.int .i64 t.K) (.int .i64 t.N) (.string t.S) lv) (fps ++ [fp]) := by
  have hmem : ∀ g ∈ fps.flatten, g < wr.heap.size := fun g hg => (hfr g hg).2
  refine ⟨by rw [put4_size, hcs], by simp [hfl], ?_, ?_, (hb.trans (hb2.mono (by omega))).trans hWb, ?_⟩
  · rw [List.flatten_append, List.flatten_singleton, List.nodup_append]
    exact ⟨hnd, hfr2.1, fun a ha b hb e => by have := hmem a ha; have := (hfr2.2 b hb).1; omega⟩
  · intro g hg
    rw [List.flatten_append, List.flatten_singleton, List.mem_append] at hg
    rw [hWs]
    rcases hg with hg | hg
    · have := hfr g hg; have := hb2.size; omega
    · have := hfr2.2 g hg; omega
  · intro i u hi hu
    by_cases hik : i < k
    · obtain ⟨lv', f, e1, e2, e3, e4, e5, e6⟩ := hdone i u hik hu
      refine ⟨lv', f, by rw [List.getElem?_append_left (by omega)]; exact e1, by rw [put4_other _ _ _ _ _ _ _ (by omega)]; exact e2, by rw [put4_other _ _ _ _ _ _ _ (by omega)]; exact e3, by rw [put4_other _ _ _ _ _ _ _ (by omega)]; exact e4, by rw [put4_other _ _ _ _ _ _ _ (by omega)]; exact e5, e6.frame fun g hg => ?_⟩
      have hgf : g ∈ fps.flatten := List.mem_flatten.2 ⟨f, List.mem_of_getElem? e1, hg⟩
      have := hfr g hgf
      rw [hW2 g (by omega), hb2.block g (by omega)]
    · obtain rfl : i = k := by omega
      rw [ht] at hu
      obtain rfl := Option.some.inj hu
      have h4 := put4_at cur (i * 4) (.int .i64 t.K) (.int .i64 t.N) (.string t.S) lv (by omega)
      refine ⟨lv, fp, by rw [List.getElem?_append_right (by omega), hfl]; simp, h4.1, h4.2.1, h4.2.2.1, h4.2.2.2, hown.frame fun g hg => ?_⟩
      have := (hfr2.2 g hg).1
      exact hW2 g (by omega)

set_option maxHeartbeats 2000000 in
theorem toTermS_any : ∀ d, ToS d := by
  intro d
  obtain ⟨i0, hi, hz0, hz1, hz2⟩ := info_parts Try.infoTerm
  induction d with
  | zero =>
    intro v ts w hr hw hz
    obtain ⟨a, c, rfl⟩ := hr
    go_enter Try.func92, Try.ntmps92
    go_wp2_with (at_make; refine wpList_make_full _ rfl _ _ 51 rfl w.heap.size 53 i0 _ 4 Try.underlying51 hi hz0 hz1 _ _ _ _ 0 rfl rfl rfl rfl (by omega) (by unfold maxLen; omega) (Nat.le_refl _) ?_)
    intro w1 hown hgrow
    have hbel : Below w.heap.size w w1 := (Below.refl _ _).grown hgrow (Nat.le_refl _) (fun _ h => by cases h)
    clear hown hgrow
    go_wp2
    refine wp_loop_rounds 1 ?_
    rw [rounds_succ]
    go_wp2
    go_ret
    exact ⟨_, _, _, [], rfl, ⟨⟨_, _, rfl⟩, rfl⟩, ⟨List.nodup_nil, fun g hg => by cases hg⟩, hbel⟩
  | succ d ih =>
    intro v ts w hr hw hz
    have HT := toTerm_of d ih
    obtain ⟨a, c, rfl, hel⟩ := hr
    have HE : Hid (∀ (i : Nat) (t : Tm (d + 1)), ts[i]? = some t → ∃ b o lv, a = some ⟨b, o, none⟩ ∧ Four w b (o + i * 4) t.K t.N t.S lv ∧ RdL d w lv t.L) := hel
    have HW : Hid (WfL (d + 1) ts) := hw
    obtain ⟨len, hlen⟩ : ∃ len, ts.length = len := ⟨_, rfl⟩
    have HLN : Hid (ts.length = len) := hlen
    have hm : len ≤ 1048576 := by have := szP_all d ts; omega
    have HZ : Hid (szL (d + 1) ts ≤ 1048576) := hz
    rw [hlen]
    clear hlen ih hel hw hz
    go_enter Try.func92, Try.ntmps92
    go_wp2_with (at_make; refine wpList_make_full _ rfl _ _ 51 rfl w.heap.size 53 i0 _ 4 Try.underlying51 hi hz0 hz1 _ _ _ _ len rfl rfl rfl rfl (by rw [hz2]; omega) (by unfold maxLen; omega) (Nat.le_refl _) ?_)
    intro w1 hown hgrow
    have hbel : Below w.heap.size w w1 := (Below.refl _ _).grown hgrow (Nat.le_refl _) (fun _ h => by cases h)
    obtain ⟨cur0, hc0, hs0⟩ : ∃ cur, w1.heap[w.heap.size]? = some (.cells cur 53 (0, 0)) ∧ cur.size = len * 4 := by
      rcases hown.2 with ⟨h', _⟩ | ⟨g', cap', cur, h', _, hg, _, _, hs, _⟩
      · simp at h'
      · simp only [Value.slice.injEq, Option.some.injEq, Addr.mk.injEq, and_true, true_and] at h'
        obtain ⟨rfl, rfl⟩ := h'
        exact ⟨cur, hg, hs⟩
    clear hown hgrow
    go_wp2
    go_loopw [4] (fun i wr => ∃ (k : Nat) (cur : Array Value) (fps : List (List Nat)), k ≤ len ∧ i = .int .i64 k ∧ wr.heap[w.heap.size]? = some (.cells cur 53 (0, 0)) ∧ cur.size = len * 4 ∧ fps.length = k ∧ fps.flatten.Nodup ∧ (∀ g ∈ fps.flatten, w.heap.size < g ∧ g < wr.heap.size) ∧ Below w.heap.size w wr ∧ Done d ts k wr cur fps) (fun i _ => len - (intOf i).toNat)
    case atStart => exact ⟨0, cur0, [], Nat.zero_le _, rfl, hc0, hs0, rfl, by simp, by simp, hbel, fun i t hi => by omega⟩
    case round =>
      obtain ⟨k, cur, fps, hk, rfl, hh, hcs, hfl, hnd, hfr, hb, hdone⟩ := hrel
      have HD : Hid (Done d ts k wr cur fps) := hdone
      have HH : Hid (wr.heap[w.heap.size]? = some (.cells cur 53 (0, 0))) := hh
      have HFL : Hid (fps.length = k) := hfl
      have HCS : Hid (cur.size = len * 4) := hcs
      have hwz : w.heap.size < wr.heap.size := Nat.lt_of_not_le fun hn => by simp [Array.getElem?_eq_none hn] at hh
      clear hdone hc0 hs0 hbel hh hfl hcs
      by_cases hkl : k < len
      · obtain ⟨t, ht⟩ : ∃ t, ts[k]? = some t := ⟨_, List.getElem?_eq_getElem (by rw [HLN.out]; exact hkl)⟩
        obtain ⟨b, o, lv, rfl, hF, hL⟩ := HE.out k t ht
        obtain ⟨_, _, hs, hwt⟩ := HW.out.2 t (List.mem_of_getElem? ht)
        obtain ⟨f0, f1, f2, f3⟩ := hF.later hb
        have hzt : szL d t.L ≤ 1048576 := by have h1 := szP_succ d ts k t ht; have h2 := szP_le d ts (k + 1); have h3 := HZ.out; have h4 : szL (d + 1) ts = ts.length + (ts.map fun t => t.S.size + szL d t.L).sum := rfl; omega
        have hC := HT t.K t.N t.S lv t.L wr (hL.later hb) hwt hzt
        clear hF hL hs HT
        go_wp2_with fail
        refine hC.mono ?_
        clear hC
        rintro e w2 ⟨a', l', c', fp, rfl, hown, hfr2, hb2⟩
        have hh2 : w2.heap[w.heap.size]? = some (.cells cur 53 (0, 0)) := (hb2.block _ hwz).trans HH.out
        have hc4 : ∀ j, j < 4 → ∃ v, w2.cell? ⟨w.heap.size, k * 4 + j, none⟩ = some v := fun j hj => by
          rw [cell_of_row w2 _ _ _ _ _ hh2]
          exact ⟨_, Array.getElem?_eq_getElem (by have := HCS.out; omega)⟩
        obtain ⟨v0, c0⟩ := hc4 0 (by omega)
        obtain ⟨v1, c1⟩ := hc4 1 (by omega)
        obtain ⟨v2, c2⟩ := hc4 2 (by omega)
        obtain ⟨v3, c3⟩ := hc4 3 (by omega)
        rw [Nat.add_zero] at c0
        have z0 : w2.frozen? ⟨w.heap.size, k * 4, none⟩ = false := frozen_of_row w2 _ _ _ _ hh2
        have z1 : w2.frozen? ⟨w.heap.size, k * 4 + 1, none⟩ = false := frozen_of_row w2 _ _ _ _ hh2
        have z2 : w2.frozen? ⟨w.heap.size, k * 4 + 2, none⟩ = false := frozen_of_row w2 _ _ _ _ hh2
        have z3 : w2.frozen? ⟨w.heap.size, k * 4 + 3, none⟩ = false := frozen_of_row w2 _ _ _ _ hh2
        have HH2 : Hid (w2.heap[w.heap.size]? = some (.cells cur 53 (0, 0))) := hh2
        clear hc4 hh2 f0 f1 f2 f3
        have hS := stores4 w2 w.heap.size (k * 4) cur 53 HH2.out (.int .i64 t.K) (.int .i64 t.N) (.string t.S) (.slice a' l' c')
        have hWb := stores4_below w2 w.heap.size (k * 4) (.int .i64 t.K) (.int .i64 t.N) (.string t.S) (.slice a' l' c')
        have R := to_step hkl HCS.out HFL.out hnd hfr hwz hb hb2 HD.out ht hown hfr2 hS.1 hS.2 (stores4_size w2 w.heap.size (k * 4) _ _ _ _) hWb
        have HS1 : Hid _ := hS.1
        have HRR : Hid _ := R
        clear hS hWb R hown hfr2 hb2 hnd hfr hb
        go_wp2
        go_roundw
        case rel => exact ⟨k + 1, _, _, by omega, by go_num, HS1.out, HRR.out.1, HRR.out.2.1, HRR.out.2.2.1, HRR.out.2.2.2.1, HRR.out.2.2.2.2.1, HRR.out.2.2.2.2.2⟩
        case measure => simp [intOf]; omega
      · have HO : Hid (OwnL (d + 1) wr (.slice (some ⟨w.heap.size, 0, none⟩) len len) ts (w.heap.size :: fps.flatten)) :=
          .inr ⟨w.heap.size, len, cur, fps, by rw [HLN.out], HH.out, by rw [HFL.out, HLN.out]; omega, rfl, fun i t ht => HD.out i t (by have := (List.getElem?_eq_some_iff.1 ht).1; have := HLN.out; omega) ht⟩
        have HFR : Hid (Fresh w.heap.size wr (w.heap.size :: fps.flatten)) := ⟨List.nodup_cons.2 ⟨fun hg => by have := (hfr _ hg).1; omega, hnd⟩, fun g hg => by
          rcases List.mem_cons.1 hg with rfl | hg
          · omega
          · have := hfr g hg; omega⟩
        clear hnd hfr HT
        go_wp2
        go_ret
        exact ⟨_, _, _, _, rfl, HO.out, HFR.out, hb⟩

end Go.Proofs.Ytgmddookohkhlaa

/- Lists of structs of whatever kind, by the cells of their elements: as they are read, and as they lie in memory of one's own. -/
namespace Go.Proofs.Ytgmddookohkhlaa
open Go.RowKit
set_option linter.unusedVariables false

/-- A value that is a slice of what xs tell, k cells each; R says what the cells of one tell. -/
def RowOf {α : Type} (k : Nat) (R : World → List Value → α → Prop) (w : World) (v : Value) (xs : List α) : Prop :=
  ∃ a c, v = .slice a xs.length c ∧ ∀ (i : Nat) (x : α), xs[i]? = some x → ∃ b o vs, a = some ⟨b, o, none⟩ ∧ vs.length = k ∧ (∀ (j : Nat) (u : Value), vs[j]? = some u → w.cell? ⟨b, o + i * k + j, none⟩ = some u) ∧ R w vs x

/-- What is told of a value stays told as long as what was there lies as it lay. -/
def Lasts {α : Type} (R : World → List Value → α → Prop) : Prop := ∀ w w' vs x, R w vs x → Below w.heap.size w w' → R w' vs x

theorem RowOf.later {α : Type} {k : Nat} {R : World → List Value → α → Prop} (hR : Lasts R) {w w' : World} {v : Value} {xs : List α} (h : RowOf k R w v xs) (hb : Below w.heap.size w w') : RowOf k R w' v xs := by
  obtain ⟨a, c, rfl, h1⟩ := h
  refine ⟨a, c, rfl, fun i x hx => ?_⟩
  obtain ⟨b, o, vs, h2, h3, h4, h5⟩ := h1 i x hx
  exact ⟨b, o, vs, h2, h3, fun j u hu => cell_later hb (h4 j u hu), hR _ _ _ _ h5 hb⟩

theorem RowOf.slice {α : Type} {k : Nat} {R : World → List Value → α → Prop} {w : World} {v : Value} {xs : List α} (h : RowOf k R w v xs) : ∃ a c, v = .slice a xs.length c := by
  obtain ⟨a, c, e, _⟩ := h
  exact ⟨a, c, e⟩

def WfRow {α : Type} (P : α → Prop) (xs : List α) : Prop := xs.length ≤ 9223372036854775807 ∧ ∀ x ∈ xs, P x

def sumP {α : Type} (f : α → Nat) (xs : List α) (i : Nat) : Nat := ((xs.take i).map f).sum
def szRow {α : Type} (f : α → Nat) (xs : List α) : Nat := xs.length + (xs.map f).sum

theorem sumP_succ {α : Type} (f : α → Nat) (xs : List α) (i : Nat) (x : α) (h : xs[i]? = some x) : sumP f xs (i + 1) = sumP f xs i + f x := by
  have hl := (List.getElem?_eq_some_iff.1 h).1
  have he := (List.getElem?_eq_some_iff.1 h).2
  unfold sumP
  rw [List.take_succ_eq_append_getElem hl, he]
  simp
theorem sumP_le {α : Type} (f : α → Nat) (xs : List α) (i : Nat) : sumP f xs i ≤ (xs.map f).sum := by
  unfold sumP
  conv => rhs; rw [← List.take_append_drop i xs]
  rw [List.map_append, List.sum_append]
  omega
theorem sumP_all {α : Type} (f : α → Nat) (xs : List α) : xs.length + sumP f xs xs.length = szRow f xs := by
  unfold sumP szRow
  rw [List.take_length]
theorem szRow_mem {α : Type} {f : α → Nat} {xs : List α} {i : Nat} {x : α} (h : xs[i]? = some x) : f x ≤ szRow f xs := by
  have h1 := sumP_succ f xs i x h
  have h2 := sumP_le f xs (i + 1)
  unfold szRow
  omega

/-- Cells of a row written anew, one after the other. -/
def putL (cur : Array Value) (o : Nat) : List Value → Array Value
  | [] => cur
  | v :: vs => putL (cur.setIfInBounds o v) (o + 1) vs
def setL (w : World) (g o : Nat) : List Value → World
  | [] => w
  | v :: vs => setL (w.setCell ⟨g, o, none⟩ v) g (o + 1) vs

theorem putL_size : ∀ (vs : List Value) (cur : Array Value) (o : Nat), (putL cur o vs).size = cur.size := by
  intro vs
  induction vs with
  | nil => intro cur o; rfl
  | cons v vs ih => intro cur o; rw [putL, ih]; simp
theorem putL_other : ∀ (vs : List Value) (cur : Array Value) (o j : Nat), j < o ∨ o + vs.length ≤ j → (putL cur o vs)[j]? = cur[j]? := by
  intro vs
  induction vs with
  | nil => intro cur o j _; rfl
  | cons v vs ih => intro cur o j h; simp only [List.length_cons] at h; rw [putL, ih _ _ _ (by omega), Array.getElem?_setIfInBounds_ne (by omega)]
theorem putL_at : ∀ (vs : List Value) (cur : Array Value) (o i : Nat) (u : Value), o + vs.length ≤ cur.size → vs[i]? = some u → (putL cur o vs)[o + i]? = some u := by
  intro vs
  induction vs with
  | nil => intro cur o i u _ h; simp at h
  | cons v vs ih =>
    intro cur o i u hs h
    simp only [List.length_cons] at hs
    rw [putL]
    cases i with
    | zero =>
      simp only [List.getElem?_cons_zero, Option.some.injEq] at h
      rw [putL_other _ _ _ _ (by omega), Nat.add_zero, Array.getElem?_setIfInBounds_self, if_pos (by omega), h]
    | succ i =>
      simp only [List.getElem?_cons_succ] at h
      have := ih (cur.setIfInBounds o v) (o + 1) i u (by simp; omega) h
      rw [show o + (i + 1) = o + 1 + i by omega]
      exact this
theorem setL_row : ∀ (vs : List Value) (w : World) (g o : Nat) (cur : Array Value) (T : TypeId), w.heap[g]? = some (.cells cur T (0, 0)) → (setL w g o vs).heap[g]? = some (.cells (putL cur o vs) T (0, 0)) := by
  intro vs
  induction vs with
  | nil => intro w g o cur T h; exact h
  | cons v vs ih => intro w g o cur T h; exact ih _ _ _ _ _ (heap_setCell_same w g _ _ _ _ h)
theorem setL_other : ∀ (vs : List Value) (w : World) (g o j : Nat), j ≠ g → (setL w g o vs).heap[j]? = w.heap[j]? := by
  intro vs
  induction vs with
  | nil => intro w g o j _; rfl
  | cons v vs ih => intro w g o j h; rw [setL, ih _ _ _ _ h, heap_setCell_other _ _ _ _ (by simp; omega)]
theorem setL_size : ∀ (vs : List Value) (w : World) (g o : Nat), (setL w g o vs).heap.size = w.heap.size := by
  intro vs
  induction vs with
  | nil => intro w g o; rfl
  | cons v vs ih => intro w g o; rw [setL, ih]; simp
theorem setL_below : ∀ (vs : List Value) (w : World) (g o B : Nat), B ≤ g → Below B w (setL w g o vs) := by
  intro vs
  induction vs with
  | nil => intro w g o B _; exact Below.refl _ _
  | cons v vs ih => intro w g o B h; exact ((Below.refl B w).setCell (p := ⟨g, o, none⟩) h v).trans (ih _ _ _ _ h)

/-- The same in blocks of one's own. -/
def OwnRow {α : Type} (k : Nat) (T : TypeId) (O : World → List Value → α → List Nat → Prop) (w : World) (v : Value) (xs : List α) (fp : List Nat) : Prop :=
  (xs = [] ∧ fp = [] ∧ ∃ a c, v = .slice a 0 c) ∨
    ∃ (g c : Nat) (cur : Array Value) (fps : List (List Nat)), v = .slice (some ⟨g, 0, none⟩) xs.length c ∧ w.heap[g]? = some (.cells cur T (0, 0)) ∧ (fps.length = xs.length ∧ xs.length ≤ c) ∧ fp = g :: fps.flatten ∧
      ∀ (i : Nat) (x : α), xs[i]? = some x → ∃ vs f, fps[i]? = some f ∧ vs.length = k ∧ (∀ (j : Nat) (u : Value), vs[j]? = some u → cur[i * k + j]? = some u) ∧ O w vs x f

def LastsO {α : Type} (O : World → List Value → α → List Nat → Prop) : Prop := ∀ w w' vs x f, O w vs x f → (∀ g ∈ f, w'.heap[g]? = w.heap[g]?) → O w' vs x f
def Reads {α : Type} (O : World → List Value → α → List Nat → Prop) (R : World → List Value → α → Prop) : Prop := ∀ w vs x f, O w vs x f → R w vs x

theorem OwnRow.frame {α : Type} {k : Nat} {T : TypeId} {O : World → List Value → α → List Nat → Prop} (hO : LastsO O) {w w' : World} {v : Value} {xs : List α} {fp : List Nat} (h : OwnRow k T O w v xs fp) (hh : ∀ g ∈ fp, w'.heap[g]? = w.heap[g]?) : OwnRow k T O w' v xs fp := by
  rcases h with h | ⟨g, c, cur, fps, h1, h2, h3, rfl, h4⟩
  · exact .inl h
  · refine .inr ⟨g, c, cur, fps, h1, by rw [hh g (List.mem_cons_self ..)]; exact h2, h3, rfl, fun i x hx => ?_⟩
    obtain ⟨vs, f, e1, e2, e3, e4⟩ := h4 i x hx
    exact ⟨vs, f, e1, e2, e3, hO _ _ _ _ _ e4 fun j hj => hh j (List.mem_cons_of_mem _ (List.mem_flatten.2 ⟨f, List.mem_of_getElem? e1, hj⟩))⟩

theorem OwnRow.rd {α : Type} {k : Nat} {T : TypeId} {O : World → List Value → α → List Nat → Prop} {R : World → List Value → α → Prop} (hO : Reads O R) {w : World} {v : Value} {xs : List α} {fp : List Nat} (h : OwnRow k T O w v xs fp) : RowOf k R w v xs := by
  rcases h with ⟨rfl, _, a, c, rfl⟩ | ⟨g, c, cur, fps, rfl, h2, h3, rfl, h4⟩
  · exact ⟨a, c, rfl, fun i x hx => by simp at hx⟩
  · refine ⟨_, c, rfl, fun i x hx => ?_⟩
    obtain ⟨vs, f, e1, e2, e3, e4⟩ := h4 i x hx
    refine ⟨g, 0, vs, rfl, e2, fun j u hu => ?_, hO _ _ _ _ e4⟩
    rw [Nat.zero_add, cell_of_row w _ _ _ _ _ h2]
    exact e3 j u hu

/-- The first n of a list lie copied in the row at B. -/
def DoneRow {α : Type} (k : Nat) (O : World → List Value → α → List Nat → Prop) (xs : List α) (n : Nat) (w : World) (cur : Array Value) (fps : List (List Nat)) : Prop :=
  ∀ (i : Nat) (x : α), i < n → xs[i]? = some x → ∃ vs f, fps[i]? = some f ∧ vs.length = k ∧ (∀ (j : Nat) (u : Value), vs[j]? = some u → cur[i * k + j]? = some u) ∧ O w vs x f

theorem row_step {α : Type} {k : Nat} {T : TypeId} {O : World → List Value → α → List Nat → Prop} (hO : LastsO O) {xs : List α} {B len n : Nat} {w wr w2 : World} {cur : Array Value} {fps : List (List Nat)} {x : α} {vs : List Value} {fp : List Nat}
    (hk : n < len) (hcs : cur.size = len * k) (hfl : fps.length = n) (hnd : fps.flatten.Nodup) (hfr : ∀ g ∈ fps.flatten, B < g ∧ g < wr.heap.size) (hwz : B < wr.heap.size) (hb : Below B w wr) (hb2 : Below wr.heap.size wr w2)
    (hdone : DoneRow k O xs n wr cur fps) (ht : xs[n]? = some x) (hvs : vs.length = k) (hown : O w2 vs x fp) (hfr2 : Fresh wr.heap.size w2 fp) (hrow : w2.heap[B]? = some (.cells cur T (0, 0))) :
    (setL w2 B (n * k) vs).heap[B]? = some (.cells (putL cur (n * k) vs) T (0, 0)) ∧ (putL cur (n * k) vs).size = len * k ∧ (fps ++ [fp]).length = n + 1 ∧ (fps ++ [fp]).flatten.Nodup ∧ (∀ g ∈ (fps ++ [fp]).flatten, B < g ∧ g < (setL w2 B (n * k) vs).heap.size) ∧ Below B w (setL w2 B (n * k) vs) ∧
      DoneRow k O xs (n + 1) (setL w2 B (n * k) vs) (putL cur (n * k) vs) (fps ++ [fp]) := by
  have hmem : ∀ g ∈ fps.flatten, g < wr.heap.size := fun g hg => (hfr g hg).2
  have hroom : n * k + vs.length ≤ cur.size := by
    have h1 : (n + 1) * k ≤ len * k := Nat.mul_le_mul_right k hk
    rw [Nat.add_mul, Nat.one_mul] at h1
    omega
  refine ⟨setL_row _ _ _ _ _ _ hrow, by rw [putL_size, hcs], by simp [hfl], ?_, ?_, (hb.trans (hb2.mono (by omega))).trans (setL_below _ _ _ _ _ (Nat.le_refl _)), ?_⟩
  · rw [List.flatten_append, List.flatten_singleton, List.nodup_append]
    exact ⟨hnd, hfr2.1, fun a ha b hb e => by have := hmem a ha; have := (hfr2.2 b hb).1; omega⟩
  · intro g hg
    rw [List.flatten_append, List.flatten_singleton, List.mem_append] at hg
    rw [setL_size]
    rcases hg with hg | hg
    · have := hfr g hg; have := hb2.size; omega
    · have := hfr2.2 g hg; omega
  · intro i u hi hu
    by_cases hik : i < n
    · obtain ⟨vs', f, e1, e2, e3, e4⟩ := hdone i u hik hu
      refine ⟨vs', f, by rw [List.getElem?_append_left (by omega)]; exact e1, e2, fun j y hy => ?_, hO _ _ _ _ _ e4 fun g hg => ?_⟩
      · have hj := (List.getElem?_eq_some_iff.1 hy).1
        have h1 : (i + 1) * k ≤ n * k := Nat.mul_le_mul_right k hik
        rw [Nat.add_mul, Nat.one_mul] at h1
        rw [putL_other _ _ _ _ (by omega)]
        exact e3 j y hy
      · have hgf : g ∈ fps.flatten := List.mem_flatten.2 ⟨f, List.mem_of_getElem? e1, hg⟩
        have := hfr g hgf
        rw [setL_other _ _ _ _ _ (by omega), hb2.block g (by omega)]
    · obtain rfl : i = n := by omega
      rw [ht] at hu
      obtain rfl := Option.some.inj hu
      refine ⟨vs, fp, by rw [List.getElem?_append_right (by omega), hfl]; simp, hvs, fun j y hy => putL_at _ _ _ _ _ hroom hy, hO _ _ _ _ _ hown fun g hg => ?_⟩
      have := (hfr2.2 g hg).1
      exact setL_other _ _ _ _ _ (by omega)

theorem row_done {α : Type} {k : Nat} {T : TypeId} {O : World → List Value → α → List Nat → Prop} {xs : List α} {B len : Nat} {w wr : World} {cur : Array Value} {fps : List (List Nat)} (hl : xs.length = len) (hfl : fps.length = len) (hnd : fps.flatten.Nodup) (hfr : ∀ g ∈ fps.flatten, B < g ∧ g < wr.heap.size) (hwz : B < wr.heap.size) (hrow : wr.heap[B]? = some (.cells cur T (0, 0))) (hd : DoneRow k O xs len wr cur fps) :
    OwnRow k T O wr (.slice (some ⟨B, 0, none⟩) len len) xs (B :: fps.flatten) ∧ Fresh B wr (B :: fps.flatten) := by
  refine ⟨.inr ⟨B, len, cur, fps, by rw [hl], hrow, ⟨by rw [hfl, hl], by omega⟩, rfl, fun i x hx => hd i x (by have := (List.getElem?_eq_some_iff.1 hx).1; omega) hx⟩, List.nodup_cons.2 ⟨fun hg => by have := (hfr _ hg).1; omega, hnd⟩, fun g hg => ?_⟩
  rcases List.mem_cons.1 hg with rfl | hg
  · omega
  · have := hfr g hg; omega

theorem lt_row {w : World} {g : Nat} {o : Obj} (h : w.heap[g]? = some o) : g < w.heap.size := Nat.lt_of_not_le fun hn => by rw [Array.getElem?_eq_none hn] at h; cases h

end Go.Proofs.Ytgmddookohkhlaa

/- The contracts of the law's own measure, copy and comparison, of one and of a list. -/
namespace Go.Proofs.Ytgmddookohkhlaa
open Go.RowKit

def SzEl {α : Type} (F : Nat) (R : World → List Value → α → Prop) (P : α → Prop) (f : α → Nat) : Prop := ∀ (vs : List Value) (x : α) (left : Int) (w : World), R w vs x → P x → 0 ≤ left → left ≤ 1048576 →
  Calls Try.prog F #[.agg vs.toArray, .int .i64 left] w fun e w' => e = .returned (.int .i64 (lft left (f x))) ∧ Below w.heap.size w w'
def SzLs {α : Type} (F k : Nat) (R : World → List Value → α → Prop) (P : α → Prop) (f : α → Nat) : Prop := ∀ (v : Value) (xs : List α) (left : Int) (w : World), RowOf k R w v xs → WfRow P xs → 0 ≤ left → left ≤ 1048576 →
  Calls Try.prog F #[v, .int .i64 left] w fun e w' => e = .returned (.int .i64 (lft left (szRow f xs))) ∧ Below w.heap.size w w'
def ToEl {α : Type} (F : Nat) (R : World → List Value → α → Prop) (O : World → List Value → α → List Nat → Prop) (P : α → Prop) (f : α → Nat) : Prop := ∀ (vs : List Value) (x : α) (w : World), R w vs x → P x → f x ≤ 1048576 →
  Calls Try.prog F #[.agg vs.toArray] w fun e w' => ∃ vs' fp, e = .returned (.agg vs'.toArray) ∧ O w' vs' x fp ∧ Fresh w.heap.size w' fp ∧ Below w.heap.size w w'
def ToLs {α : Type} (F k : Nat) (T : TypeId) (R : World → List Value → α → Prop) (O : World → List Value → α → List Nat → Prop) (P : α → Prop) (f : α → Nat) : Prop := ∀ (v : Value) (xs : List α) (w : World), RowOf k R w v xs → WfRow P xs → szRow f xs ≤ 1048576 →
  Calls Try.prog F #[v] w fun e w' => ∃ a l c fp, e = .returned (.slice a l c) ∧ OwnRow k T O w' (.slice a l c) xs fp ∧ Fresh w.heap.size w' fp ∧ Below w.heap.size w w'
def EqEl {α : Type} (F : Nat) (R : World → List Value → α → Prop) (P : α → Prop) : Prop := ∀ (vs1 vs2 : List Value) (x : α) (w : World), R w vs1 x → R w vs2 x → P x →
  Calls Try.prog F #[.agg vs1.toArray, .agg vs2.toArray] w fun e w' => e = .returned (.bool true) ∧ Below w.heap.size w w'
def EqLs {α : Type} (F k : Nat) (R : World → List Value → α → Prop) (P : α → Prop) : Prop := ∀ (v1 v2 : Value) (xs : List α) (w : World), RowOf k R w v1 xs → RowOf k R w v2 xs → WfRow P xs →
  Calls Try.prog F #[v1, v2] w fun e w' => e = .returned (.bool true) ∧ Below w.heap.size w w'

end Go.Proofs.Ytgmddookohkhlaa

/- The law's own comparison of terms: two that read as one are alike. -/
namespace Go.Proofs.Ytgmddookohkhlaa
open Go.RowKit

def EqS (d : Nat) : Prop := ∀ (v1 v2 : Value) (ts : List (Tm d)) (w : World), RdL d w v1 ts → RdL d w v2 ts → WfL d ts →
  Calls Try.prog 97 #[v1, v2] w fun e w' => e = .returned (.bool true) ∧ Below w.heap.size w w'

theorem RdL.shape {d : Nat} {w : World} {v : Value} {ts : List (Tm d)} (h : RdL d w v ts) : ∃ a l c, v = .slice a l c := by
  cases d with
  | zero => obtain ⟨a, c, h⟩ := h; exact ⟨a, _, c, h⟩
  | succ d => obtain ⟨a, c, h, _⟩ := h; exact ⟨a, _, c, h⟩

set_option maxHeartbeats 1000000 in
theorem eqTerm_of (d : Nat) (H : EqS d) (k n : Int) (s : ByteArray) (l1 l2 : Value) (ts : List (Tm d)) (w : World) (h1 : RdL d w l1 ts) (h2 : RdL d w l2 ts) (hw : WfL d ts) :
    Calls Try.prog 85 #[.agg #[.int .i64 k, .int .i64 n, .string s, l1], .agg #[.int .i64 k, .int .i64 n, .string s, l2]] w fun e w' => e = .returned (.bool true) ∧ Below w.heap.size w w' := by
  have hA : Below w.heap.size w ((w.alloc (.cells #[.int .i64 k, .int .i64 n, .string s, l1] 53)).alloc (.cells #[.int .i64 k, .int .i64 n, .string s, l2] 53)) := ((Below.refl _ _).alloc (Nat.le_refl _) _).alloc (by simp) _
  have hC := H l1 l2 ts _ (h1.later hA) (h2.later hA) hw
  clear H h1 h2 hw
  go_enter Try.func85, Try.ntmps85
  go_wp2_with fail
  refine hC.mono ?_
  clear hC
  rintro e w1 ⟨rfl, hb⟩
  have hb2 : Below w.heap.size w w1 := hA.trans (hb.mono (by simp; omega))
  clear hA hb
  go_wp2
  go_ret
  exact ⟨rfl, hb2⟩

set_option maxHeartbeats 1000000 in
theorem eqTermS_any : ∀ d, EqS d := by
  intro d
  induction d with
  | zero =>
    intro v1 v2 ts w h1 h2 hw
    obtain ⟨a1, c1, rfl⟩ := h1
    obtain ⟨a2, c2, rfl⟩ := h2
    go_enter Try.func97, Try.ntmps97
    go_wp2
    refine wp_loop_rounds 1 ?_
    rw [rounds_succ]
    go_wp2
    go_ret
    exact ⟨rfl, Below.refl _ _⟩
  | succ d ih =>
    intro v1 v2 ts w h1 h2 hw
    have HT := eqTerm_of d ih
    obtain ⟨a1, c1, rfl, e1⟩ := h1
    obtain ⟨a2, c2, rfl, e2⟩ := h2
    have HE1 : Hid (∀ (i : Nat) (t : Tm (d + 1)), ts[i]? = some t → ∃ b o lv, a1 = some ⟨b, o, none⟩ ∧ Four w b (o + i * 4) t.K t.N t.S lv ∧ RdL d w lv t.L) := e1
    have HE2 : Hid (∀ (i : Nat) (t : Tm (d + 1)), ts[i]? = some t → ∃ b o lv, a2 = some ⟨b, o, none⟩ ∧ Four w b (o + i * 4) t.K t.N t.S lv ∧ RdL d w lv t.L) := e2
    have HW : Hid (WfL (d + 1) ts) := hw
    have hm : ts.length ≤ 9223372036854775807 := hw.1
    obtain ⟨len, hlen⟩ : ∃ len, ts.length = len := ⟨_, rfl⟩
    have HLN : Hid (ts.length = len) := hlen
    rw [hlen] at hm ⊢
    clear hlen ih e1 e2 hw
    go_enter Try.func97, Try.ntmps97
    go_wp2_with fail
    go_loopw [5] (fun i wr => ∃ k : Nat, k ≤ len ∧ i = .int .i64 k ∧ Below w.heap.size w wr) (fun i _ => len - (intOf i).toNat)
    case atStart => exact ⟨0, Nat.zero_le _, rfl, Below.refl _ _⟩
    case round =>
      obtain ⟨k, hk, rfl, hb⟩ := hrel
      by_cases hkl : k < len
      · obtain ⟨t, ht⟩ : ∃ t, ts[k]? = some t := ⟨_, List.getElem?_eq_getElem (by rw [HLN.out]; exact hkl)⟩
        obtain ⟨b1, o1, lv1, rfl, F1, L1⟩ := HE1.out k t ht
        obtain ⟨b2, o2, lv2, rfl, F2, L2⟩ := HE2.out k t ht
        obtain ⟨_, _, _, hwt⟩ := HW.out.2 t (List.mem_of_getElem? ht)
        obtain ⟨f0, f1, f2, f3⟩ := F1.later hb
        obtain ⟨g0, g1, g2, g3⟩ := F2.later hb
        have L1' := L1.later hb
        have L2' := L2.later hb
        obtain ⟨x1, y1, z1, hs1⟩ := L1'.shape
        obtain ⟨x2, y2, z2, hs2⟩ := L2'.shape
        rw [hs1] at f3 L1'
        rw [hs2] at g3 L2'
        have hkl' : (k : Int) < (len : Int) := by omega
        have HC : Hid (∀ W : World, Below wr.heap.size wr W → Calls Try.prog 85 #[.agg #[.int .i64 t.K, .int .i64 t.N, .string t.S, .slice x1 y1 z1], .agg #[.int .i64 t.K, .int .i64 t.N, .string t.S, .slice x2 y2 z2]] W fun e w' => e = .returned (.bool true) ∧ Below W.heap.size W w') :=
          fun W hW => HT t.K t.N t.S _ _ t.L W (L1'.later hW) (L2'.later hW) hwt
        clear F1 F2 L1 L2 HT L1' L2' hs1 hs2
        go_wp2_with fail
        go_region_with (go_at_call 85; refine (HC.out _ ?_).mono ?_; exact (Below.refl _ _).drew; rintro e W ⟨rfl, hB⟩)
        all_goals
          have hb2 : Below w.heap.size w W := hb.drew.trans (hB.mono hb.drew.size)
          clear hb hB
          go_wp2
          go_roundw
          case rel => exact ⟨k + 1, by omega, by go_num, hb2⟩
          case measure => simp [intOf]; omega
      · go_wp2
        go_ret
        exact ⟨rfl, hb⟩
end Go.Proofs.Ytgmddookohkhlaa

/- What the model's comparison of two terms comes to: whether they are one. -/
namespace Go.Proofs.Ytgmddookohkhlaa
open Go.RowKit
set_option linter.unusedVariables false

/-- The contract of the comparison, at terms of d storeys below. -/
def Sm (f d : Nat) : Prop := ∀ (k n : Int) (s : ByteArray) (l : Value) (ts : List (Tm d)) (k' n' : Int) (s' : ByteArray) (l' : Value) (ts' : List (Tm d)) (w : World), RdL d w l ts → RdL d w l' ts' → WfL d ts → WfL d ts' →
  Calls Try.prog f #[.agg #[.int .i64 k, .int .i64 n, .string s, l], .agg #[.int .i64 k', .int .i64 n', .string s', l']] w fun e w' => ∃ b : Bool, e = .returned (.bool b) ∧ (b = true ↔ k = k' ∧ n = n' ∧ s = s' ∧ ts = ts') ∧ Below w.heap.size w w'

theorem toList_inj {x y : ByteArray} (h : x.toList = y.toList) : x = y := by
  rw [ByteArray.toList_eq, ByteArray.toList_eq] at h
  exact ByteArray.ext (Array.toList_inj.mp h)

theorem RdL.len {d : Nat} {w : World} {v : Value} {ts : List (Tm d)} (h : RdL d w v ts) : ∃ a c, v = .slice a ts.length c := by
  cases d with
  | zero =>
    obtain ⟨a, c, h⟩ := h
    have : ts = [] := by
      cases ts with
      | nil => rfl
      | cons t _ => exact Empty.elim t
    exact ⟨a, c, by rw [h, this]; rfl⟩
  | succ d => obtain ⟨a, c, h, _⟩ := h; exact ⟨a, c, h⟩

theorem WfL.len {d : Nat} {ts : List (Tm d)} (h : WfL d ts) : ts.length ≤ 9223372036854775807 := by
  cases d with
  | zero =>
    cases ts with
    | nil => simp
    | cons t _ => exact Empty.elim t
  | succ d => exact h.1

theorem tm_ext {d : Nat} {t t' : Tm (d + 1)} (h1 : t.K = t'.K) (h2 : t.N = t'.N) (h3 : t.S = t'.S) (h4 : t.L = t'.L) : t = t' := by
  obtain ⟨a, b, c, e⟩ := t
  obtain ⟨a', b', c', e'⟩ := t'
  simp only [Tm.K, Tm.N, Tm.S, Tm.L] at h1 h2 h3 h4
  subst h1; subst h2; subst h3; subst h4
  rfl

theorem heap_two (w : World) (o1 o2 : Obj) : ((w.alloc o1).alloc o2).heap[w.heap.size]? = some o1 ∧ ((w.alloc o1).alloc o2).heap[w.heap.size + 1]? = some o2 := by
  constructor
  · rw [Below.heap_alloc _ _ _ (by simp)]; exact heap_alloc_new w o1
  · have := heap_alloc_new (w.alloc o1) o2
    simpa using this

end Go.Proofs.Ytgmddookohkhlaa

/- How many terms there are, how deep they are, and that the model's two functions tell it. -/
namespace Go.Proofs.Ytgmddookohkhlaa
open Go.RowKit
set_option linter.unusedVariables false

/-- How many terms are in a list, all storeys. -/
def cntL : (d : Nat) → List (Tm d) → Nat
  | 0, _ => 0
  | d + 1, ts => (ts.map fun t => 1 + cntL d t.L).sum

/-- How deep the deepest of a list is. -/
def depL : (d : Nat) → List (Tm d) → Nat
  | 0, _ => 0
  | d + 1, ts => (ts.map fun t => 1 + depL d t.L).foldl max 0

def cntP (d : Nat) (ts : List (Tm (d + 1))) (i : Nat) : Nat := ((ts.take i).map fun t => 1 + cntL d t.L).sum
def depP (d : Nat) (ts : List (Tm (d + 1))) (i : Nat) : Nat := ((ts.take i).map fun t => 1 + depL d t.L).foldl max 0

theorem cntP_succ (d : Nat) (ts : List (Tm (d + 1))) (i : Nat) (t : Tm (d + 1)) (h : ts[i]? = some t) : cntP d ts (i + 1) = cntP d ts i + (1 + cntL d t.L) := by
  have hl := (List.getElem?_eq_some_iff.1 h).1
  have he := (List.getElem?_eq_some_iff.1 h).2
  unfold cntP
  rw [List.take_succ_eq_append_getElem hl, he]
  simp
theorem depP_succ (d : Nat) (ts : List (Tm (d + 1))) (i : Nat) (t : Tm (d + 1)) (h : ts[i]? = some t) : depP d ts (i + 1) = max (depP d ts i) (1 + depL d t.L) := by
  have hl := (List.getElem?_eq_some_iff.1 h).1
  have he := (List.getElem?_eq_some_iff.1 h).2
  unfold depP
  rw [List.take_succ_eq_append_getElem hl, he]
  simp
theorem cntP_all (d : Nat) (ts : List (Tm (d + 1))) (i : Nat) (h : ts.length ≤ i) : cntP d ts i = cntL (d + 1) ts := by
  unfold cntP; rw [List.take_of_length_le h]; rfl
theorem depP_all (d : Nat) (ts : List (Tm (d + 1))) (i : Nat) (h : ts.length ≤ i) : depP d ts i = depL (d + 1) ts := by
  unfold depP; rw [List.take_of_length_le h]; rfl
theorem cntP_le (d : Nat) (ts : List (Tm (d + 1))) (i : Nat) : cntP d ts i ≤ cntL (d + 1) ts := by
  show _ ≤ (ts.map fun t => 1 + cntL d t.L).sum
  unfold cntP
  conv => rhs; rw [← List.take_append_drop i ts]
  rw [List.map_append, List.sum_append]
  omega

theorem cntL_szL : ∀ (d : Nat) (ts : List (Tm d)), cntL d ts ≤ szL d ts := by
  intro d
  induction d with
  | zero => intro ts; exact Nat.le_refl _
  | succ d ih =>
    intro ts
    show (ts.map fun t => 1 + cntL d t.L).sum ≤ ts.length + (ts.map fun t => t.S.size + szL d t.L).sum
    induction ts with
    | nil => simp
    | cons t r ih2 =>
      have := ih t.L
      simp only [List.map_cons, List.sum_cons, List.length_cons]
      omega

theorem foldl_max_ge (l : List Nat) : ∀ a, a ≤ l.foldl max a ∧ ∀ x ∈ l, x ≤ l.foldl max a := by
  induction l with
  | nil => intro a; exact ⟨Nat.le_refl _, fun x hx => by cases hx⟩
  | cons b r ih =>
    intro a
    have h := ih (max a b)
    refine ⟨by simp only [List.foldl_cons]; omega, fun x hx => ?_⟩
    rcases List.mem_cons.1 hx with rfl | hx
    · simp only [List.foldl_cons]; omega
    · simp only [List.foldl_cons]; exact h.2 x hx
theorem foldl_max_le (l : List Nat) : ∀ (a m : Nat), a ≤ m → (∀ x ∈ l, x ≤ m) → l.foldl max a ≤ m := by
  induction l with
  | nil => intro a m h _; exact h
  | cons b r ih =>
    intro a m h hx
    exact ih (max a b) m (by have := hx b (List.mem_cons_self ..); omega) fun x hx' => hx x (List.mem_cons_of_mem _ hx')

theorem depL_cntL : ∀ (d : Nat) (ts : List (Tm d)), depL d ts ≤ cntL d ts := by
  intro d
  induction d with
  | zero => intro ts; exact Nat.le_refl _
  | succ d ih =>
    intro ts
    refine foldl_max_le _ 0 _ (Nat.zero_le _) fun x hx => ?_
    obtain ⟨t, ht, rfl⟩ := List.mem_map.1 hx
    have h1 := ih t.L
    have h2 : ∀ (l : List (Tm (d + 1))), t ∈ l → 1 + cntL d t.L ≤ (l.map fun t => 1 + cntL d t.L).sum := by
      intro l hl
      induction l with
      | nil => cases hl
      | cons b r ih2 =>
        simp only [List.map_cons, List.sum_cons]
        rcases List.mem_cons.1 hl with rfl | hl
        · omega
        · have := ih2 hl; omega
    have := h2 ts ht
    show 1 + depL d t.L ≤ (ts.map fun t => 1 + cntL d t.L).sum
    omega

theorem depP_le (d : Nat) (ts : List (Tm (d + 1))) (i : Nat) : depP d ts i ≤ depL (d + 1) ts := by
  refine foldl_max_le _ 0 _ (Nat.zero_le _) fun x hx => ?_
  obtain ⟨t, ht, rfl⟩ := List.mem_map.1 hx
  exact (foldl_max_ge _ 0).2 _ (List.mem_map.2 ⟨t, List.mem_of_mem_take ht, rfl⟩)

/-- The contract of a function that tells a number of a term. -/
def Tells (f d : Nat) (g : (d : Nat) → List (Tm d) → Nat) : Prop := ∀ (k n : Int) (s : ByteArray) (l : Value) (ts : List (Tm d)) (w : World), RdL d w l ts → WfL d ts → cntL d ts ≤ 1099511627776 →
  Calls Try.prog f #[.agg #[.int .i64 k, .int .i64 n, .string s, l]] w fun e w' => e = .returned (.int .i64 (1 + g d ts : Nat)) ∧ Below w.heap.size w w'

theorem cnt_elem {d : Nat} {ts : List (Tm (d + 1))} {j : Nat} {t : Tm (d + 1)} (ht : ts[j]? = some t) (h : cntL (d + 1) ts ≤ 1099511627776) : cntL d t.L ≤ 1099511627776 := by
  have h1 := cntP_succ d ts j t ht
  have h2 := cntP_le d ts (j + 1)
  omega

end Go.Proofs.Ytgmddookohkhlaa
