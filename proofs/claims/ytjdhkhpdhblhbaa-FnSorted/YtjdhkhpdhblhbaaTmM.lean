/- Terms as plain data, how they lie in memory, and the law's own measure of them. -/
import Derived.Test.YtjdhkhpdhblhbaaRows
import Derived.WalkKit
import Derived.WalkSpells
import Derived.WalkLawsBesides
import Derived.BigQuiet
import Derived.Deep.QuietTactic
import Derived.Deep.RegionWith
import Derived.ProofKit
import Derived.OpenShut
import Derived.Deep.Slices
import Derived.Lib.SmallJoins
namespace Go.Proofs.Ytjdhkhpdhblhbaa
open Go.RowKit

/-- A term of at most d storeys: its kind, its number, its text, what is in it. -/
def Tm : Nat → Type
  | 0 => Empty
  | d + 1 => Int × Int × ByteArray × List (Tm d)

def Tm.K {d : Nat} (t : Tm (d + 1)) : Int := t.1
def Tm.N {d : Nat} (t : Tm (d + 1)) : Int := t.2.1
def Tm.S {d : Nat} (t : Tm (d + 1)) : ByteArray := t.2.2.1
def Tm.L {d : Nat} (t : Tm (d + 1)) : List (Tm d) := t.2.2.2

/-- Four cells that hold a term's fields. -/
def Four (w : World) (b o : Nat) (k n : Int) (s : ByteArray) (v : Value) : Prop :=
  w.cell? ⟨b, o, none⟩ = some (.int .i64 k) ∧ w.cell? ⟨b, o + 1, none⟩ = some (.int .i64 n) ∧ w.cell? ⟨b, o + 2, none⟩ = some (.string s) ∧ w.cell? ⟨b, o + 3, none⟩ = some v

/-- A value that is a slice of the terms ts. -/
def RdL : (d : Nat) → World → Value → List (Tm d) → Prop
  | 0, _, v, _ => ∃ a c, v = .slice a 0 c
  | d + 1, w, v, ts => ∃ a c, v = .slice a ts.length c ∧ ∀ (i : Nat) (t : Tm (d + 1)), ts[i]? = some t → ∃ b o lv, a = some ⟨b, o, none⟩ ∧ Four w b (o + i * 4) t.K t.N t.S lv ∧ RdL d w lv t.L

/-- That a 64-bit int holds it. -/
def I64 (n : Int) : Prop := -9223372036854775808 ≤ n ∧ n ≤ 9223372036854775807

/-- What every list of terms that is in memory is within. -/
def WfL : (d : Nat) → List (Tm d) → Prop
  | 0, _ => True
  | d + 1, ts => ts.length ≤ 9223372036854775807 ∧ ∀ t ∈ ts, I64 t.K ∧ I64 t.N ∧ t.S.size ≤ maxLen ∧ WfL d t.L

/-- How great a list of terms is: each of them, each letter. -/
def szL : (d : Nat) → List (Tm d) → Nat
  | 0, _ => 0
  | d + 1, ts => ts.length + (ts.map fun t => t.S.size + szL d t.L).sum

/-- What is left of a measure. -/
def lft (left : Int) (n : Nat) : Int := if (n : Int) ≤ left then left - n else -1

theorem tret1 {a b : Int} (h : a = b) : Ending.returned (.int .i64 a) = .returned (.int .i64 b) := by rw [h]

theorem Four.later {w w' : World} {b o : Nat} {k n : Int} {s : ByteArray} {v : Value} (h : Four w b o k n s v) (hb : Below w.heap.size w w') : Four w' b o k n s v :=
  ⟨cell_later hb h.1, cell_later hb h.2.1, cell_later hb h.2.2.1, cell_later hb h.2.2.2⟩

theorem RdL.later : ∀ {d : Nat} {w w' : World} {v : Value} {ts : List (Tm d)}, RdL d w v ts → Below w.heap.size w w' → RdL d w' v ts := by
  intro d
  induction d with
  | zero => intro w w' v ts h _; exact h
  | succ d ih =>
    intro w w' v ts h hb
    obtain ⟨a, c, rfl, h1⟩ := h
    refine ⟨a, c, rfl, fun i t ht => ?_⟩
    obtain ⟨b, o, lv, h2, h4, h5⟩ := h1 i t ht
    exact ⟨b, o, lv, h2, h4.later hb, ih h5 hb⟩

/-- The contract of the law's measure of a list. -/
def SzS (d : Nat) : Prop := ∀ (v : Value) (ts : List (Tm d)) (left : Int) (w : World), RdL d w v ts → WfL d ts → 0 ≤ left → left ≤ 1048576 →
  Calls Try.prog 33 #[v, .int .i64 left] w fun e w' => e = .returned (.int .i64 (lft left (szL d ts))) ∧ Below w.heap.size w w'

set_option maxHeartbeats 400000 in
theorem szTerm_of (d : Nat) (H : SzS d) (k n : Int) (s : ByteArray) (lv : Value) (ts : List (Tm d)) (left : Int) (w : World) (hr : RdL d w lv ts) (hw : WfL d ts) (hs : s.size ≤ maxLen) (h0 : 0 ≤ left) (h1 : left ≤ 1048576) :
    Calls Try.prog 9 #[.agg #[.int .i64 k, .int .i64 n, .string s, lv], .int .i64 left] w fun e w' => e = .returned (.int .i64 (lft left (s.size + szL d ts))) ∧ Below w.heap.size w w' := by
  unfold maxLen at hs
  by_cases hlt : left < s.size
  · have HF : Hid ((-1 : Int) = lft left (s.size + szL d ts)) := by unfold lft; rw [if_neg (by omega)]; exact rfl
    go_enter Try.func9, Try.ntmps9
    go_wp2
    go_ret
    exact ⟨tret1 HF.out, (Below.refl _ _).alloc (Nat.le_refl _) _⟩
  · have hA : Below w.heap.size w (w.alloc (Obj.cells #[Value.int IntKind.i64 k, Value.int IntKind.i64 n, Value.string s, lv] 24)) := (Below.refl _ _).alloc (Nat.le_refl _) _
    have hC := H lv ts (left - s.size) _ (hr.later hA) hw (by omega) (by omega)
    obtain ⟨x, hx⟩ : ∃ x, lft (left - s.size) (szL d ts) = x := ⟨_, rfl⟩
    rw [hx] at hC
    by_cases hneg : x < 0
    · have HF : Hid ((-1 : Int) = lft left (s.size + szL d ts)) := by
        unfold lft at hx ⊢
        by_cases h2 : (szL d ts : Int) ≤ left - s.size
        · rw [if_pos h2] at hx; omega
        · rw [if_neg (by omega)]; exact rfl
      clear hx
      go_enter Try.func9, Try.ntmps9
      go_wp2_with fail
      refine hC.mono ?_
      clear hC
      rintro e w1 ⟨rfl, hb1⟩
      have hb2 : Below w.heap.size w w1 := hA.trans (hb1.mono (by simp))
      clear hb1 hA
      go_wp2
      go_ret
      exact ⟨tret1 HF.out, hb2⟩
    · have HF : Hid (x = lft left (s.size + szL d ts)) := by
        unfold lft at hx ⊢
        by_cases h2 : (szL d ts : Int) ≤ left - s.size
        · rw [if_pos h2] at hx; rw [if_pos (by omega), ← hx]; show _ = _; omega
        · rw [if_neg h2] at hx; omega
      clear hx
      go_enter Try.func9, Try.ntmps9
      go_wp2_with fail
      refine hC.mono ?_
      clear hC
      rintro e w1 ⟨rfl, hb1⟩
      have hb2 : Below w.heap.size w w1 := hA.trans (hb1.mono (by simp))
      clear hb1 hA
      go_wp2
      go_ret
      exact ⟨tret1 HF.out, hb2⟩

/-- The measure of the first terms of a list. -/
def szP (d : Nat) (ts : List (Tm (d + 1))) (i : Nat) : Nat := ((ts.take i).map fun t => t.S.size + szL d t.L).sum

theorem szP_succ (d : Nat) (ts : List (Tm (d + 1))) (i : Nat) (t : Tm (d + 1)) (h : ts[i]? = some t) : szP d ts (i + 1) = szP d ts i + (t.S.size + szL d t.L) := by
  have hl := (List.getElem?_eq_some_iff.1 h).1
  have he := (List.getElem?_eq_some_iff.1 h).2
  unfold szP
  rw [List.take_succ_eq_append_getElem hl, he]
  simp

theorem szP_le (d : Nat) (ts : List (Tm (d + 1))) (i : Nat) : szP d ts i ≤ (ts.map fun t => t.S.size + szL d t.L).sum := by
  unfold szP
  conv => rhs; rw [← List.take_append_drop i ts]
  rw [List.map_append, List.sum_append]
  omega

theorem szP_all (d : Nat) (ts : List (Tm (d + 1))) : ts.length + szP d ts ts.length = szL (d + 1) ts := by
  unfold szP
  rw [List.take_length]
  rfl

set_option maxHeartbeats 1000000 in
theorem szTermS_any : ∀ d, SzS d := by
  intro d
  induction d with
  | zero =>
    intro v ts left w hr hw h0 h1
    obtain ⟨a, c, rfl⟩ := hr
    have HF : Hid (left = lft left (szL 0 ts)) := by show _ = _; unfold lft szL; rw [if_pos (by omega)]; omega
    go_enter Try.func33, Try.ntmps33
    go_wp2
    refine wp_loop_rounds 1 ?_
    rw [rounds_succ]
    go_wp2
    go_ret
    exact ⟨tret1 HF.out, Below.refl _ _⟩
  | succ d ih =>
    intro v ts left w hr hw h0 h1
    have HT := szTerm_of d ih
    obtain ⟨a, c, rfl, hel⟩ := hr
    have HE : Hid (∀ (i : Nat) (t : Tm (d + 1)), ts[i]? = some t → ∃ b o lv, a = some ⟨b, o, none⟩ ∧ Four w b (o + i * 4) t.K t.N t.S lv ∧ RdL d w lv t.L) := hel
    have HW : Hid (WfL (d + 1) ts) := hw
    have hm : ts.length ≤ 9223372036854775807 := hw.1
    clear hel hw
    obtain ⟨len, hlen⟩ : ∃ len, ts.length = len := ⟨_, rfl⟩
    have HLN : Hid (ts.length = len) := hlen
    rw [hlen] at hm ⊢
    clear hlen ih
    by_cases hlt : left < len
    · have HF : Hid ((-1 : Int) = lft left (szL (d + 1) ts)) := by show _ = _; have := szP_all d ts; rw [HLN.out] at this; unfold lft; rw [if_neg (by omega)]
      go_enter Try.func33, Try.ntmps33
      go_wp2
      go_ret
      exact ⟨tret1 HF.out, Below.refl _ _⟩
    · go_enter Try.func33, Try.ntmps33
      go_wp2_with fail
      go_loopw [1, 5] (fun x i wr => ∃ k : Nat, k ≤ len ∧ i = .int .i64 k ∧ x = .int .i64 (left - len - szP d ts k) ∧ 0 ≤ left - (len : Int) - szP d ts k ∧ Below w.heap.size w wr) (fun _ i _ => len - (intOf i).toNat)
      case atStart => exact ⟨0, Nat.zero_le _, rfl, by simp [szP], by simp [szP]; omega, Below.refl _ _⟩
      case round =>
        obtain ⟨k, hk, rfl, rfl, hx0, hb⟩ := hrel
        obtain ⟨x, hx⟩ : ∃ x, left - (len : Int) - szP d ts k = x := ⟨_, rfl⟩
        have HX : Hid (left - (len : Int) - szP d ts k = x) := hx
        rw [hx] at hx0 ⊢
        have hx1 : x ≤ 1048576 := by omega
        clear hx
        by_cases hkl : k < len
        · obtain ⟨t, ht⟩ : ∃ t, ts[k]? = some t := ⟨_, List.getElem?_eq_getElem (by rw [HLN.out]; exact hkl)⟩
          obtain ⟨b, o, lv, rfl, hF, hL⟩ := HE.out k t ht
          obtain ⟨_, _, hs, hwt⟩ := HW.out.2 t (List.mem_of_getElem? ht)
          obtain ⟨f0, f1, f2, f3⟩ := hF.later hb
          have hC := HT t.K t.N t.S lv t.L x wr (hL.later hb) hwt hs hx0 hx1
          have hstep := szP_succ d ts k t ht
          obtain ⟨y, hy⟩ : ∃ y, lft x (t.S.size + szL d t.L) = y := ⟨_, rfl⟩
          rw [hy] at hC
          clear hF hL
          by_cases hneg : y < 0
          · have HF : Hid ((-1 : Int) = lft left (szL (d + 1) ts)) := by
              have h1 := szP_all d ts
              have h2 := szP_le d ts (k + 1)
              have h3 := HX.out
              have h5 := HLN.out
              have h6 : szL (d + 1) ts = ts.length + (ts.map fun t => t.S.size + szL d t.L).sum := rfl
              unfold lft at hy
              show _ = _
              by_cases h4 : ((t.S.size + szL d t.L : Nat) : Int) ≤ x
              · rw [if_pos h4] at hy; omega
              · unfold lft; rw [if_neg (by omega)]
            clear hy hstep HT HX
            go_wp2_with fail
            refine hC.mono ?_
            clear hC
            rintro e w1 ⟨rfl, hb1⟩
            have hb2 : Below w.heap.size w w1 := hb.trans (hb1.mono hb.size)
            clear hb1 hb f0 f1 f2 f3
            go_wp2
            go_ret
            exact ⟨tret1 HF.out, hb2⟩
          · have HY : Hid (y = left - (len : Int) - szP d ts (k + 1) ∧ 0 ≤ left - (len : Int) - szP d ts (k + 1)) := by
              have h3 := HX.out
              unfold lft at hy
              by_cases h4 : ((t.S.size + szL d t.L : Nat) : Int) ≤ x
              · rw [if_pos h4] at hy; show _ ∧ _; omega
              · rw [if_neg h4] at hy; omega
            clear hy hstep HT HX
            go_wp2_with fail
            refine hC.mono ?_
            clear hC
            rintro e w1 ⟨rfl, hb1⟩
            have hb2 : Below w.heap.size w w1 := hb.trans (hb1.mono hb.size)
            clear hb1 hb f0 f1 f2 f3
            go_wp2
            go_roundw
            case rel => exact ⟨k + 1, by omega, by go_num, by rw [HY.out.1], HY.out.2, hb2⟩
            case measure => simp [intOf]; omega
        · have HF : Hid (x = lft left (szL (d + 1) ts)) := by
            have h1 := szP_all d ts
            have h3 := HX.out
            have h5 := HLN.out
            have hk' : k = ts.length := by omega
            rw [hk'] at h3
            unfold lft; rw [if_pos (by omega)]; show _ = _; omega
          clear HT HX
          go_wp2
          go_ret
          exact ⟨tret1 HF.out, hb⟩
end Go.Proofs.Ytjdhkhpdhblhbaa

/- The law's own deep copy of terms: a tree in new memory, no block of which is met twice. -/
namespace Go.Proofs.Ytjdhkhpdhblhbaa
open Go.RowKit

/-- A value that is a slice of the terms ts, in blocks fp of the call's own. -/
def OwnL : (d : Nat) → World → Value → List (Tm d) → List Nat → Prop
  | 0, _, v, _, fp => (∃ a c, v = .slice a 0 c) ∧ fp = []
  | d + 1, w, v, ts, fp => (ts = [] ∧ fp = [] ∧ ∃ a c, v = .slice a 0 c) ∨
      ∃ (g c : Nat) (cur : Array Value) (fps : List (List Nat)), v = .slice (some ⟨g, 0, none⟩) ts.length c ∧ w.heap[g]? = some (.cells cur 29 (0, 0)) ∧ fps.length = ts.length ∧ fp = g :: fps.flatten ∧
        ∀ (i : Nat) (t : Tm (d + 1)), ts[i]? = some t → ∃ lv f, fps[i]? = some f ∧ cur[i * 4]? = some (.int .i64 t.K) ∧ cur[i * 4 + 1]? = some (.int .i64 t.N) ∧ cur[i * 4 + 2]? = some (.string t.S) ∧ cur[i * 4 + 3]? = some lv ∧ OwnL d w lv t.L f

/-- The blocks are all unlike, and none is older than B. -/
def Fresh (B : Nat) (w : World) (fp : List Nat) : Prop := fp.Nodup ∧ ∀ g ∈ fp, B ≤ g ∧ g < w.heap.size

theorem OwnL.frame : ∀ {d : Nat} {w w' : World} {v : Value} {ts : List (Tm d)} {fp : List Nat}, OwnL d w v ts fp → (∀ g ∈ fp, w'.heap[g]? = w.heap[g]?) → OwnL d w' v ts fp := by
  intro d
  induction d with
  | zero => intro w w' v ts fp h _; exact h
  | succ d ih =>
    intro w w' v ts fp h hh
    rcases h with h | ⟨g, c, cur, fps, h1, h2, h3, rfl, h4⟩
    · exact .inl h
    · refine .inr ⟨g, c, cur, fps, h1, by rw [hh g (List.mem_cons_self ..)]; exact h2, h3, rfl, fun i t ht => ?_⟩
      obtain ⟨lv, f, e1, e2, e3, e4, e5, e6⟩ := h4 i t ht
      exact ⟨lv, f, e1, e2, e3, e4, e5, ih e6 fun k hk => hh k (List.mem_cons_of_mem _ (List.mem_flatten.2 ⟨f, List.mem_of_getElem? e1, hk⟩))⟩

theorem OwnL.rd : ∀ {d : Nat} {w : World} {v : Value} {ts : List (Tm d)} {fp : List Nat}, OwnL d w v ts fp → RdL d w v ts := by
  intro d
  induction d with
  | zero => intro w v ts fp h; exact h.1
  | succ d ih =>
    intro w v ts fp h
    rcases h with ⟨rfl, _, a, c, rfl⟩ | ⟨g, c, cur, fps, h1, h2, h3, rfl, h4⟩
    · exact ⟨a, c, rfl, fun i t ht => by simp at ht⟩
    · refine ⟨_, c, h1, fun i t ht => ?_⟩
      obtain ⟨lv, f, e1, e2, e3, e4, e5, e6⟩ := h4 i t ht
      refine ⟨g, 0, lv, rfl, ?_, ih e6⟩
      have hc := fun j => cell_of_row w g j cur 29 (0, 0) h2
      exact ⟨by rw [hc, ← e2, Nat.zero_add], by rw [hc, ← e3, Nat.zero_add], by rw [hc, ← e4, Nat.zero_add], by rw [hc, ← e5, Nat.zero_add]⟩

/-- The contract of the copy of a list. -/
def ToS (d : Nat) : Prop := ∀ (v : Value) (ts : List (Tm d)) (w : World), RdL d w v ts → WfL d ts → szL d ts ≤ 1048576 →
  Calls Try.prog 35 #[v] w fun e w' => ∃ a l c fp, e = .returned (.slice a l c) ∧ OwnL d w' (.slice a l c) ts fp ∧ Fresh w.heap.size w' fp ∧ Below w.heap.size w w'

theorem bcell {W w1 : World} (hb : Below W.heap.size W w1) : (∀ b o, b < W.heap.size → w1.cell? ⟨b, o, none⟩ = W.cell? ⟨b, o, none⟩) ∧ (∀ b o, b < W.heap.size → w1.frozen? ⟨b, o, none⟩ = W.frozen? ⟨b, o, none⟩) :=
  ⟨fun b o h => hb.cell (p := ⟨b, o, none⟩) h, fun b o h => hb.frozen (p := ⟨b, o, none⟩) h⟩

set_option maxHeartbeats 1000000 in
theorem toTerm_of (d : Nat) (H : ToS d) (k n : Int) (s : ByteArray) (lv : Value) (ts : List (Tm d)) (w : World) (hr : RdL d w lv ts) (hw : WfL d ts) (hz : szL d ts ≤ 1048576) :
    Calls Try.prog 11 #[.agg #[.int .i64 k, .int .i64 n, .string s, lv]] w fun e w' => ∃ a l c fp, e = .returned (.agg #[.int .i64 k, .int .i64 n, .string s, .slice a l c]) ∧ OwnL d w' (.slice a l c) ts fp ∧ Fresh w.heap.size w' fp ∧ Below w.heap.size w w' := by
  obtain ⟨W, hW⟩ : ∃ W, W = (((w.alloc (.cells #[.int .i64 k, .int .i64 n, .string s, lv] 24)).alloc (.cells #[.int .i64 0, .int .i64 0, .string ⟨#[]⟩, .slice none 0 0] 29)).alloc (.cells #[.int .i64 k, .int .i64 n, .string s, .slice none 0 0] 29)) := ⟨_, rfl⟩
  have hWs : W.heap.size = w.heap.size + 1 + 1 + 1 := by rw [hW]; simp
  have hWb : Below w.heap.size w W := by rw [hW]; exact (((Below.refl _ _).alloc (Nat.le_refl _) _).alloc (by simp) _).alloc (by simp; omega) _
  have hWc2 : W.heap[w.heap.size + 1 + 1]? = some (.cells #[.int .i64 k, .int .i64 n, .string s, .slice none 0 0] 29 (0, 0)) := by
    rw [hW]; have := heap_alloc_new ((w.alloc (.cells #[.int .i64 k, .int .i64 n, .string s, lv] 24)).alloc (.cells #[.int .i64 0, .int .i64 0, .string ⟨#[]⟩, .slice none 0 0] 29)) (.cells #[.int .i64 k, .int .i64 n, .string s, .slice none 0 0] 29)
    simpa using this
  have hWc1 : W.heap[w.heap.size + 1]? = some (.cells #[.int .i64 0, .int .i64 0, .string ⟨#[]⟩, .slice none 0 0] 29 (0, 0)) := by
    rw [hW, Below.heap_alloc _ _ _ (by simp)]
    have := heap_alloc_new (w.alloc (.cells #[.int .i64 k, .int .i64 n, .string s, lv] 24)) (.cells #[.int .i64 0, .int .i64 0, .string ⟨#[]⟩, .slice none 0 0] 29)
    simpa using this
  have hC := H lv ts W (hr.later hWb) hw hz
  rw [hW] at hC
  have HW : Hid (W = _) := hW
  clear hW hr hw H
  go_enter Try.func11, Try.ntmps11
  go_wp2_with fail
  refine hC.mono ?_
  clear hC
  rintro e w1 ⟨a', l', c', fp, rfl, hown, hfr, hb⟩
  rw [← HW.out] at hfr hb
  have hh2 : w1.heap[w.heap.size + 1 + 1]? = _ := (hb.block _ (by omega)).trans hWc2
  have hh1 : w1.heap[w.heap.size + 1]? = _ := (hb.block _ (by omega)).trans hWc1
  have a0 : w1.cell? ⟨w.heap.size + 1 + 1, 0, none⟩ = some (.int .i64 k) := by rw [cell_of_row w1 _ 0 _ _ _ hh2]; rfl
  have a1 : w1.cell? ⟨w.heap.size + 1 + 1, 1, none⟩ = some (.int .i64 n) := by rw [cell_of_row w1 _ 1 _ _ _ hh2]; rfl
  have a2 : w1.cell? ⟨w.heap.size + 1 + 1, 2, none⟩ = some (.string s) := by rw [cell_of_row w1 _ 2 _ _ _ hh2]; rfl
  have a3 : w1.cell? ⟨w.heap.size + 1 + 1, 3, none⟩ = some (.slice none 0 0) := by rw [cell_of_row w1 _ 3 _ _ _ hh2]; rfl
  have z3 : w1.frozen? ⟨w.heap.size + 1 + 1, 3, none⟩ = false := frozen_of_row w1 _ 3 _ _ hh2
  have b0 : w1.cell? ⟨w.heap.size + 1, 0, none⟩ = some (.int .i64 0) := by rw [cell_of_row w1 _ 0 _ _ _ hh1]; rfl
  have b1 : w1.cell? ⟨w.heap.size + 1, 1, none⟩ = some (.int .i64 0) := by rw [cell_of_row w1 _ 1 _ _ _ hh1]; rfl
  have b2 : w1.cell? ⟨w.heap.size + 1, 2, none⟩ = some (.string ⟨#[]⟩) := by rw [cell_of_row w1 _ 2 _ _ _ hh1]; rfl
  have b3 : w1.cell? ⟨w.heap.size + 1, 3, none⟩ = some (.slice none 0 0) := by rw [cell_of_row w1 _ 3 _ _ _ hh1]; rfl
  have y0 : w1.frozen? ⟨w.heap.size + 1, 0, none⟩ = false := frozen_of_row w1 _ 0 _ _ hh1
  have y1 : w1.frozen? ⟨w.heap.size + 1, 1, none⟩ = false := frozen_of_row w1 _ 1 _ _ hh1
  have y2 : w1.frozen? ⟨w.heap.size + 1, 2, none⟩ = false := frozen_of_row w1 _ 2 _ _ hh1
  have y3 : w1.frozen? ⟨w.heap.size + 1, 3, none⟩ = false := frozen_of_row w1 _ 3 _ _ hh1
  have HB : Hid (Below W.heap.size W w1) := hb
  clear hh1 hh2 hWc1 hWc2 hb HW
  go_wp2
  refine bodyPost_ret (v := .agg #[.int .i64 k, .int .i64 n, .string s, .slice a' l' c']) (by simp [results, Try.results11, go_sem, b0, b1, b2, b3]) rfl ⟨a', l', c', fp, rfl, ?_, ?_, ?_⟩
  · refine hown.frame fun g hg => ?_
    have := (hfr.2 g hg).1
    rw [heap_setCell_other _ _ _ _ (by simp; omega), heap_setCell_other _ _ _ _ (by simp; omega), heap_setCell_other _ _ _ _ (by simp; omega), heap_setCell_other _ _ _ _ (by simp; omega), heap_setCell_other _ _ _ _ (by simp; omega)]
  · exact ⟨hfr.1, fun g hg => ⟨by have := (hfr.2 g hg).1; omega, by have := (hfr.2 g hg).2; simpa using this⟩⟩
  · have h1 : Below w.heap.size w w1 := hWb.trans (HB.out.mono (by omega))
    exact ((((h1.setCell (by simp; omega) _).setCell (by simp) _).setCell (by simp) _).setCell (by simp) _).setCell (by simp) _

/-- Four cells of a row written anew. -/
def put4 (cur : Array Value) (o : Nat) (a b c d : Value) : Array Value := (((cur.setIfInBounds o a).setIfInBounds (o + 1) b).setIfInBounds (o + 2) c).setIfInBounds (o + 3) d

theorem put4_size (cur : Array Value) (o : Nat) (a b c d : Value) : (put4 cur o a b c d).size = cur.size := by simp [put4]
theorem put4_other (cur : Array Value) (o : Nat) (a b c d : Value) (j : Nat) (h : j < o ∨ o + 3 < j) : (put4 cur o a b c d)[j]? = cur[j]? := by
  unfold put4
  rw [Array.getElem?_setIfInBounds_ne (by omega), Array.getElem?_setIfInBounds_ne (by omega), Array.getElem?_setIfInBounds_ne (by omega), Array.getElem?_setIfInBounds_ne (by omega)]
theorem put4_at (cur : Array Value) (o : Nat) (a b c d : Value) (h : o + 3 < cur.size) : (put4 cur o a b c d)[o]? = some a ∧ (put4 cur o a b c d)[o + 1]? = some b ∧ (put4 cur o a b c d)[o + 2]? = some c ∧ (put4 cur o a b c d)[o + 3]? = some d := by
  unfold put4
  refine ⟨?_, ?_, ?_, ?_⟩
  · rw [Array.getElem?_setIfInBounds_ne (by omega), Array.getElem?_setIfInBounds_ne (by omega), Array.getElem?_setIfInBounds_ne (by omega), Array.getElem?_setIfInBounds_self]; simp; omega
  · rw [Array.getElem?_setIfInBounds_ne (by omega), Array.getElem?_setIfInBounds_ne (by omega), Array.getElem?_setIfInBounds_self]; simp; omega
  · rw [Array.getElem?_setIfInBounds_ne (by omega), Array.getElem?_setIfInBounds_self]; simp; omega
  · rw [Array.getElem?_setIfInBounds_self]; simp; omega

theorem stores4 (w : World) (g o : Nat) (cur : Array Value) (T : TypeId) (hh : w.heap[g]? = some (.cells cur T (0, 0))) (a b c d : Value) :
    ((((w.setCell ⟨g, o, none⟩ a).setCell ⟨g, o + 1, none⟩ b).setCell ⟨g, o + 2, none⟩ c).setCell ⟨g, o + 3, none⟩ d).heap[g]? = some (.cells (put4 cur o a b c d) T (0, 0)) ∧
    (∀ j, j ≠ g → ((((w.setCell ⟨g, o, none⟩ a).setCell ⟨g, o + 1, none⟩ b).setCell ⟨g, o + 2, none⟩ c).setCell ⟨g, o + 3, none⟩ d).heap[j]? = w.heap[j]?) := by
  constructor
  · exact heap_setCell_same _ g _ _ _ _ (heap_setCell_same _ g _ _ _ _ (heap_setCell_same _ g _ _ _ _ (heap_setCell_same w g _ _ _ _ hh)))
  · intro j hj
    rw [heap_setCell_other _ _ _ _ (by simp; omega), heap_setCell_other _ _ _ _ (by simp; omega), heap_setCell_other _ _ _ _ (by simp; omega), heap_setCell_other _ _ _ _ (by simp; omega)]

theorem stores4_below (w : World) (g o : Nat) (a b c d : Value) : Below g w ((((w.setCell ⟨g, o, none⟩ a).setCell ⟨g, o + 1, none⟩ b).setCell ⟨g, o + 2, none⟩ c).setCell ⟨g, o + 3, none⟩ d) := by
  have h1 := (Below.refl g w).setCell (p := ⟨g, o, none⟩) (Nat.le_refl g) a
  have h2 := h1.setCell (p := ⟨g, o + 1, none⟩) (Nat.le_refl g) b
  have h3 := h2.setCell (p := ⟨g, o + 2, none⟩) (Nat.le_refl g) c
  exact h3.setCell (p := ⟨g, o + 3, none⟩) (Nat.le_refl g) d
theorem stores4_size (w : World) (g o : Nat) (a b c d : Value) : ((((w.setCell ⟨g, o, none⟩ a).setCell ⟨g, o + 1, none⟩ b).setCell ⟨g, o + 2, none⟩ c).setCell ⟨g, o + 3, none⟩ d).heap.size = w.heap.size := by simp

theorem Try.infoTerm : (Try.prog.info? 29).map (fun i => (i.zero, i.size, i.bytes)) = some (some (.agg #[.int .i64 0, .int .i64 0, .string ⟨#[]⟩, .slice none 0 0]), 4, 56) := by kernel_rfl

/-- The first k terms of a list lie copied in the row at B. -/
def Done (d : Nat) (ts : List (Tm (d + 1))) (k : Nat) (w : World) (cur : Array Value) (fps : List (List Nat)) : Prop :=
  ∀ (i : Nat) (t : Tm (d + 1)), i < k → ts[i]? = some t → ∃ lv f, fps[i]? = some f ∧ cur[i * 4]? = some (.int .i64 t.K) ∧ cur[i * 4 + 1]? = some (.int .i64 t.N) ∧ cur[i * 4 + 2]? = some (.string t.S) ∧ cur[i * 4 + 3]? = some lv ∧ OwnL d w lv t.L f

theorem to_step {d : Nat} {ts : List (Tm (d + 1))} {B len k : Nat} {w wr w2 W : World} {cur : Array Value} {fps : List (List Nat)} {t : Tm (d + 1)} {lv : Value} {fp : List Nat}
    (hk : k < len) (hcs : cur.size = len * 4) (hfl : fps.length = k) (hnd : fps.flatten.Nodup) (hfr : ∀ g ∈ fps.flatten, B < g ∧ g < wr.heap.size) (hwz : B < wr.heap.size) (hb : Below B w wr) (hb2 : Below wr.heap.size wr w2)
    (hdone : Done d ts k wr cur fps) (ht : ts[k]? = some t) (hown : OwnL d w2 lv t.L fp) (hfr2 : Fresh wr.heap.size w2 fp)
    (hW1 : W.heap[B]? = some (.cells (put4 cur (k * 4) (.int .i64 t.K) (.int .i64 t.N) (.string t.S) lv) 29 (0, 0))) (hW2 : ∀ j, j ≠ B → W.heap[j]? = w2.heap[j]?) (hWs : W.heap.size = w2.heap.size) (hWb : Below B w2 W) :
    (put4 cur (k * 4) (.int .i64 t.K) (.int .i64 t.N) (.string t.S) lv).size = len * 4 ∧ (fps ++ [fp]).length = k + 1 ∧ (fps ++ [fp]).flatten.Nodup ∧ (∀ g ∈ (fps ++ [fp]).flatten, B < g ∧ g < W.heap.size) ∧ Below B w W ∧
      Done d ts (k + 1) W (put4 cur (k * 4) (.int .i64 t.K) (.int .i64 t.N) (.string t.S) lv) (fps ++ [fp]) := by
  have hmem : ∀ g ∈ fps.flatten, g < wr.heap.size := fun g hg => (hfr g hg).2
  refine ⟨by rw [put4_size, hcs], by simp [hfl], ?_, ?_, (hb.trans (hb2.mono (by omega))).trans hWb, ?_⟩
  · rw [List.flatten_append, List.flatten_singleton, List.nodup_append]
    exact ⟨hnd, hfr2.1, fun a ha b hb e => by have := hmem a ha; have := (hfr2.2 b hb).1; omega⟩
  · intro g hg
    rw [List.flatten_append, List.flatten_singleton, List.mem_append] at hg
    rw [hWs]
    rcases hg with hg | hg
    · have := hfr g hg; have := hb2.size; omega
    · have := hfr2.2 g hg; omega
  · intro i u hi hu
    by_cases hik : i < k
    · obtain ⟨lv', f, e1, e2, e3, e4, e5, e6⟩ := hdone i u hik hu
      refine ⟨lv', f, by rw [List.getElem?_append_left (by omega)]; exact e1, by rw [put4_other _ _ _ _ _ _ _ (by omega)]; exact e2, by rw [put4_other _ _ _ _ _ _ _ (by omega)]; exact e3, by rw [put4_other _ _ _ _ _ _ _ (by omega)]; exact e4, by rw [put4_other _ _ _ _ _ _ _ (by omega)]; exact e5, e6.frame fun g hg => ?_⟩
      have hgf : g ∈ fps.flatten := List.mem_flatten.2 ⟨f, List.mem_of_getElem? e1, hg⟩
      have := hfr g hgf
      rw [hW2 g (by omega), hb2.block g (by omega)]
    · obtain rfl : i = k := by omega
      rw [ht] at hu
      obtain rfl := Option.some.inj hu
      have h4 := put4_at cur (i * 4) (.int .i64 t.K) (.int .i64 t.N) (.string t.S) lv (by omega)
      refine ⟨lv, fp, by rw [List.getElem?_append_right (by omega), hfl]; simp, h4.1, h4.2.1, h4.2.2.1, h4.2.2.2, hown.frame fun g hg => ?_⟩
      have := (hfr2.2 g hg).1
      exact hW2 g (by omega)

set_option maxHeartbeats 2000000 in
theorem toTermS_any : ∀ d, ToS d := by
  intro d
  obtain ⟨i0, hi, hz0, hz1, hz2⟩ := info_parts Try.infoTerm
  induction d with
  | zero =>
    intro v ts w hr hw hz
    obtain ⟨a, c, rfl⟩ := hr
    go_enter Try.func35, Try.ntmps35
    go_wp2_with (at_make; refine wpList_make_full _ rfl _ _ 27 rfl w.heap.size 29 i0 _ 4 Try.underlying27 hi hz0 hz1 _ _ _ _ 0 rfl rfl rfl rfl (by omega) (by unfold maxLen; omega) (Nat.le_refl _) ?_)
    intro w1 hown hgrow
    have hbel : Below w.heap.size w w1 := (Below.refl _ _).grown hgrow (Nat.le_refl _) (fun _ h => by cases h)
    clear hown hgrow
    go_wp2
    refine wp_loop_rounds 1 ?_
    rw [rounds_succ]
    go_wp2
    go_ret
    exact ⟨_, _, _, [], rfl, ⟨⟨_, _, rfl⟩, rfl⟩, ⟨List.nodup_nil, fun g hg => by cases hg⟩, hbel⟩
  | succ d ih =>
    intro v ts w hr hw hz
    have HT := toTerm_of d ih
    obtain ⟨a, c, rfl, hel⟩ := hr
    have HE : Hid (∀ (i : Nat) (t : Tm (d + 1)), ts[i]? = some t → ∃ b o lv, a = some ⟨b, o, none⟩ ∧ Four w b (o + i * 4) t.K t.N t.S lv ∧ RdL d w lv t.L) := hel
    have HW : Hid (WfL (d + 1) ts) := hw
    obtain ⟨len, hlen⟩ : ∃ len, ts.length = len := ⟨_, rfl⟩
    have HLN : Hid (ts.length = len) := hlen
    have hm : len ≤ 1048576 := by have := szP_all d ts; omega
    have HZ : Hid (szL (d + 1) ts ≤ 1048576) := hz
    rw [hlen]
    clear hlen ih hel hw hz
    go_enter Try.func35, Try.ntmps35
    go_wp2_with (at_make; refine wpList_make_full _ rfl _ _ 27 rfl w.heap.size 29 i0 _ 4 Try.underlying27 hi hz0 hz1 _ _ _ _ len rfl rfl rfl rfl (by rw [hz2]; omega) (by unfold maxLen; omega) (Nat.le_refl _) ?_)
    intro w1 hown hgrow
    have hbel : Below w.heap.size w w1 := (Below.refl _ _).grown hgrow (Nat.le_refl _) (fun _ h => by cases h)
    obtain ⟨cur0, hc0, hs0⟩ : ∃ cur, w1.heap[w.heap.size]? = some (.cells cur 29 (0, 0)) ∧ cur.size = len * 4 := by
      rcases hown.2 with ⟨h', _⟩ | ⟨g', cap', cur, h', _, hg, _, _, hs, _⟩
      · simp at h'
      · simp only [Value.slice.injEq, Option.some.injEq, Addr.mk.injEq, and_true, true_and] at h'
        obtain ⟨rfl, rfl⟩ := h'
        exact ⟨cur, hg, hs⟩
    clear hown hgrow
    go_wp2
    go_loopw [4] (fun i wr => ∃ (k : Nat) (cur : Array Value) (fps : List (List Nat)), k ≤ len ∧ i = .int .i64 k ∧ wr.heap[w.heap.size]? = some (.cells cur 29 (0, 0)) ∧ cur.size = len * 4 ∧ fps.length = k ∧ fps.flatten.Nodup ∧ (∀ g ∈ fps.flatten, w.heap.size < g ∧ g < wr.heap.size) ∧ Below w.heap.size w wr ∧ Done d ts k wr cur fps) (fun i _ => len - (intOf i).toNat)
    case atStart => exact ⟨0, cur0, [], Nat.zero_le _, rfl, hc0, hs0, rfl, by simp, by simp, hbel, fun i t hi => by omega⟩
    case round =>
      obtain ⟨k, cur, fps, hk, rfl, hh, hcs, hfl, hnd, hfr, hb, hdone⟩ := hrel
      have HD : Hid (Done d ts k wr cur fps) := hdone
      have HH : Hid (wr.heap[w.heap.size]? = some (.cells cur 29 (0, 0))) := hh
      have HFL : Hid (fps.length = k) := hfl
      have HCS : Hid (cur.size = len * 4) := hcs
      have hwz : w.heap.size < wr.heap.size := Nat.lt_of_not_le fun hn => by simp [Array.getElem?_eq_none hn] at hh
      clear hdone hc0 hs0 hbel hh hfl hcs
      by_cases hkl : k < len
      · obtain ⟨t, ht⟩ : ∃ t, ts[k]? = some t := ⟨_, List.getElem?_eq_getElem (by rw [HLN.out]; exact hkl)⟩
        obtain ⟨b, o, lv, rfl, hF, hL⟩ := HE.out k t ht
        obtain ⟨_, _, hs, hwt⟩ := HW.out.2 t (List.mem_of_getElem? ht)
        obtain ⟨f0, f1, f2, f3⟩ := hF.later hb
        have hzt : szL d t.L ≤ 1048576 := by have h1 := szP_succ d ts k t ht; have h2 := szP_le d ts (k + 1); have h3 := HZ.out; have h4 : szL (d + 1) ts = ts.length + (ts.map fun t => t.S.size + szL d t.L).sum := rfl; omega
        have hC := HT t.K t.N t.S lv t.L wr (hL.later hb) hwt hzt
        clear hF hL hs HT
        go_wp2_with fail
        refine hC.mono ?_
        clear hC
        rintro e w2 ⟨a', l', c', fp, rfl, hown, hfr2, hb2⟩
        have hh2 : w2.heap[w.heap.size]? = some (.cells cur 29 (0, 0)) := (hb2.block _ hwz).trans HH.out
        have hc4 : ∀ j, j < 4 → ∃ v, w2.cell? ⟨w.heap.size, k * 4 + j, none⟩ = some v := fun j hj => by
          rw [cell_of_row w2 _ _ _ _ _ hh2]
          exact ⟨_, Array.getElem?_eq_getElem (by have := HCS.out; omega)⟩
        obtain ⟨v0, c0⟩ := hc4 0 (by omega)
        obtain ⟨v1, c1⟩ := hc4 1 (by omega)
        obtain ⟨v2, c2⟩ := hc4 2 (by omega)
        obtain ⟨v3, c3⟩ := hc4 3 (by omega)
        rw [Nat.add_zero] at c0
        have z0 : w2.frozen? ⟨w.heap.size, k * 4, none⟩ = false := frozen_of_row w2 _ _ _ _ hh2
        have z1 : w2.frozen? ⟨w.heap.size, k * 4 + 1, none⟩ = false := frozen_of_row w2 _ _ _ _ hh2
        have z2 : w2.frozen? ⟨w.heap.size, k * 4 + 2, none⟩ = false := frozen_of_row w2 _ _ _ _ hh2
        have z3 : w2.frozen? ⟨w.heap.size, k * 4 + 3, none⟩ = false := frozen_of_row w2 _ _ _ _ hh2
        have HH2 : Hid (w2.heap[w.heap.size]? = some (.cells cur 29 (0, 0))) := hh2
        clear hc4 hh2 f0 f1 f2 f3
        have hS := stores4 w2 w.heap.size (k * 4) cur 29 HH2.out (.int .i64 t.K) (.int .i64 t.N) (.string t.S) (.slice a' l' c')
        have hWb := stores4_below w2 w.heap.size (k * 4) (.int .i64 t.K) (.int .i64 t.N) (.string t.S) (.slice a' l' c')
        have R := to_step hkl HCS.out HFL.out hnd hfr hwz hb hb2 HD.out ht hown hfr2 hS.1 hS.2 (stores4_size w2 w.heap.size (k * 4) _ _ _ _) hWb
        have HS1 : Hid _ := hS.1
        have HRR : Hid _ := R
        clear hS hWb R hown hfr2 hb2 hnd hfr hb
        go_wp2
        go_roundw
        case rel => exact ⟨k + 1, _, _, by omega, by go_num, HS1.out, HRR.out.1, HRR.out.2.1, HRR.out.2.2.1, HRR.out.2.2.2.1, HRR.out.2.2.2.2.1, HRR.out.2.2.2.2.2⟩
        case measure => simp [intOf]; omega
      · have HO : Hid (OwnL (d + 1) wr (.slice (some ⟨w.heap.size, 0, none⟩) len len) ts (w.heap.size :: fps.flatten)) :=
          .inr ⟨w.heap.size, len, cur, fps, by rw [HLN.out], HH.out, by rw [HFL.out, HLN.out]; omega, rfl, fun i t ht => HD.out i t (by have := (List.getElem?_eq_some_iff.1 ht).1; have := HLN.out; omega) ht⟩
        have HFR : Hid (Fresh w.heap.size wr (w.heap.size :: fps.flatten)) := ⟨List.nodup_cons.2 ⟨fun hg => by have := (hfr _ hg).1; omega, hnd⟩, fun g hg => by
          rcases List.mem_cons.1 hg with rfl | hg
          · omega
          · have := hfr g hg; omega⟩
        clear hnd hfr HT
        go_wp2
        go_ret
        exact ⟨_, _, _, _, rfl, HO.out, HFR.out, hb⟩

end Go.Proofs.Ytjdhkhpdhblhbaa

/- The law's own comparison of terms: two that read as one are alike. -/
namespace Go.Proofs.Ytjdhkhpdhblhbaa
open Go.RowKit

def EqS (d : Nat) : Prop := ∀ (v1 v2 : Value) (ts : List (Tm d)) (w : World), RdL d w v1 ts → RdL d w v2 ts → WfL d ts →
  Calls Try.prog 37 #[v1, v2] w fun e w' => e = .returned (.bool true) ∧ Below w.heap.size w w'

theorem RdL.shape {d : Nat} {w : World} {v : Value} {ts : List (Tm d)} (h : RdL d w v ts) : ∃ a l c, v = .slice a l c := by
  cases d with
  | zero => obtain ⟨a, c, h⟩ := h; exact ⟨a, _, c, h⟩
  | succ d => obtain ⟨a, c, h, _⟩ := h; exact ⟨a, _, c, h⟩

set_option maxHeartbeats 1000000 in
theorem eqTerm_of (d : Nat) (H : EqS d) (k n : Int) (s : ByteArray) (l1 l2 : Value) (ts : List (Tm d)) (w : World) (h1 : RdL d w l1 ts) (h2 : RdL d w l2 ts) (hw : WfL d ts) :
    Calls Try.prog 13 #[.agg #[.int .i64 k, .int .i64 n, .string s, l1], .agg #[.int .i64 k, .int .i64 n, .string s, l2]] w fun e w' => e = .returned (.bool true) ∧ Below w.heap.size w w' := by
  have hA : Below w.heap.size w ((w.alloc (.cells #[.int .i64 k, .int .i64 n, .string s, l1] 29)).alloc (.cells #[.int .i64 k, .int .i64 n, .string s, l2] 29)) := ((Below.refl _ _).alloc (Nat.le_refl _) _).alloc (by simp) _
  have hC := H l1 l2 ts _ (h1.later hA) (h2.later hA) hw
  clear H h1 h2 hw
  go_enter Try.func13, Try.ntmps13
  go_wp2_with fail
  refine hC.mono ?_
  clear hC
  rintro e w1 ⟨rfl, hb⟩
  have hb2 : Below w.heap.size w w1 := hA.trans (hb.mono (by simp; omega))
  clear hA hb
  go_wp2
  go_ret
  exact ⟨rfl, hb2⟩

set_option maxHeartbeats 1000000 in
theorem eqTermS_any : ∀ d, EqS d := by
  intro d
  induction d with
  | zero =>
    intro v1 v2 ts w h1 h2 hw
    obtain ⟨a1, c1, rfl⟩ := h1
    obtain ⟨a2, c2, rfl⟩ := h2
    go_enter Try.func37, Try.ntmps37
    go_wp2
    refine wp_loop_rounds 1 ?_
    rw [rounds_succ]
    go_wp2
    go_ret
    exact ⟨rfl, Below.refl _ _⟩
  | succ d ih =>
    intro v1 v2 ts w h1 h2 hw
    have HT := eqTerm_of d ih
    obtain ⟨a1, c1, rfl, e1⟩ := h1
    obtain ⟨a2, c2, rfl, e2⟩ := h2
    have HE1 : Hid (∀ (i : Nat) (t : Tm (d + 1)), ts[i]? = some t → ∃ b o lv, a1 = some ⟨b, o, none⟩ ∧ Four w b (o + i * 4) t.K t.N t.S lv ∧ RdL d w lv t.L) := e1
    have HE2 : Hid (∀ (i : Nat) (t : Tm (d + 1)), ts[i]? = some t → ∃ b o lv, a2 = some ⟨b, o, none⟩ ∧ Four w b (o + i * 4) t.K t.N t.S lv ∧ RdL d w lv t.L) := e2
    have HW : Hid (WfL (d + 1) ts) := hw
    have hm : ts.length ≤ 9223372036854775807 := hw.1
    obtain ⟨len, hlen⟩ : ∃ len, ts.length = len := ⟨_, rfl⟩
    have HLN : Hid (ts.length = len) := hlen
    rw [hlen] at hm ⊢
    clear hlen ih e1 e2 hw
    go_enter Try.func37, Try.ntmps37
    go_wp2_with fail
    go_loopw [5] (fun i wr => ∃ k : Nat, k ≤ len ∧ i = .int .i64 k ∧ Below w.heap.size w wr) (fun i _ => len - (intOf i).toNat)
    case atStart => exact ⟨0, Nat.zero_le _, rfl, Below.refl _ _⟩
    case round =>
      obtain ⟨k, hk, rfl, hb⟩ := hrel
      by_cases hkl : k < len
      · obtain ⟨t, ht⟩ : ∃ t, ts[k]? = some t := ⟨_, List.getElem?_eq_getElem (by rw [HLN.out]; exact hkl)⟩
        obtain ⟨b1, o1, lv1, rfl, F1, L1⟩ := HE1.out k t ht
        obtain ⟨b2, o2, lv2, rfl, F2, L2⟩ := HE2.out k t ht
        obtain ⟨_, _, _, hwt⟩ := HW.out.2 t (List.mem_of_getElem? ht)
        obtain ⟨f0, f1, f2, f3⟩ := F1.later hb
        obtain ⟨g0, g1, g2, g3⟩ := F2.later hb
        have L1' := L1.later hb
        have L2' := L2.later hb
        obtain ⟨x1, y1, z1, hs1⟩ := L1'.shape
        obtain ⟨x2, y2, z2, hs2⟩ := L2'.shape
        rw [hs1] at f3 L1'
        rw [hs2] at g3 L2'
        have hkl' : (k : Int) < (len : Int) := by omega
        have HC : Hid (∀ W : World, Below wr.heap.size wr W → Calls Try.prog 13 #[.agg #[.int .i64 t.K, .int .i64 t.N, .string t.S, .slice x1 y1 z1], .agg #[.int .i64 t.K, .int .i64 t.N, .string t.S, .slice x2 y2 z2]] W fun e w' => e = .returned (.bool true) ∧ Below W.heap.size W w') :=
          fun W hW => HT t.K t.N t.S _ _ t.L W (L1'.later hW) (L2'.later hW) hwt
        clear F1 F2 L1 L2 HT L1' L2' hs1 hs2
        go_wp2_with fail
        go_region_with (go_at_call 13; refine (HC.out _ ?_).mono ?_; exact (Below.refl _ _).drew; rintro e W ⟨rfl, hB⟩)
        all_goals
          have hb2 : Below w.heap.size w W := hb.drew.trans (hB.mono hb.drew.size)
          clear hb hB
          go_wp2
          go_roundw
          case rel => exact ⟨k + 1, by omega, by go_num, hb2⟩
          case measure => simp [intOf]; omega
      · go_wp2
        go_ret
        exact ⟨rfl, hb⟩
end Go.Proofs.Ytjdhkhpdhblhbaa

/- What the model's comparison of two terms comes to: whether they are one. -/
namespace Go.Proofs.Ytjdhkhpdhblhbaa
open Go.RowKit
set_option linter.unusedVariables false

/-- The contract of the comparison, at terms of d storeys below. -/
def Sm (f d : Nat) : Prop := ∀ (k n : Int) (s : ByteArray) (l : Value) (ts : List (Tm d)) (k' n' : Int) (s' : ByteArray) (l' : Value) (ts' : List (Tm d)) (w : World), RdL d w l ts → RdL d w l' ts' → WfL d ts → WfL d ts' →
  Calls Try.prog f #[.agg #[.int .i64 k, .int .i64 n, .string s, l], .agg #[.int .i64 k', .int .i64 n', .string s', l']] w fun e w' => ∃ b : Bool, e = .returned (.bool b) ∧ (b = true ↔ k = k' ∧ n = n' ∧ s = s' ∧ ts = ts') ∧ Below w.heap.size w w'

theorem toList_inj {x y : ByteArray} (h : x.toList = y.toList) : x = y := by
  rw [ByteArray.toList_eq, ByteArray.toList_eq] at h
  exact ByteArray.ext (Array.toList_inj.mp h)

theorem RdL.len {d : Nat} {w : World} {v : Value} {ts : List (Tm d)} (h : RdL d w v ts) : ∃ a c, v = .slice a ts.length c := by
  cases d with
  | zero =>
    obtain ⟨a, c, h⟩ := h
    have : ts = [] := by
      cases ts with
      | nil => rfl
      | cons t _ => exact Empty.elim t
    exact ⟨a, c, by rw [h, this]; rfl⟩
  | succ d => obtain ⟨a, c, h, _⟩ := h; exact ⟨a, c, h⟩

theorem WfL.len {d : Nat} {ts : List (Tm d)} (h : WfL d ts) : ts.length ≤ 9223372036854775807 := by
  cases d with
  | zero =>
    cases ts with
    | nil => simp
    | cons t _ => exact Empty.elim t
  | succ d => exact h.1

theorem tm_ext {d : Nat} {t t' : Tm (d + 1)} (h1 : t.K = t'.K) (h2 : t.N = t'.N) (h3 : t.S = t'.S) (h4 : t.L = t'.L) : t = t' := by
  obtain ⟨a, b, c, e⟩ := t
  obtain ⟨a', b', c', e'⟩ := t'
  simp only [Tm.K, Tm.N, Tm.S, Tm.L] at h1 h2 h3 h4
  subst h1; subst h2; subst h3; subst h4
  rfl

theorem heap_two (w : World) (o1 o2 : Obj) : ((w.alloc o1).alloc o2).heap[w.heap.size]? = some o1 ∧ ((w.alloc o1).alloc o2).heap[w.heap.size + 1]? = some o2 := by
  constructor
  · rw [Below.heap_alloc _ _ _ (by simp)]; exact heap_alloc_new w o1
  · have := heap_alloc_new (w.alloc o1) o2
    simpa using this

end Go.Proofs.Ytjdhkhpdhblhbaa

/- How many terms there are, how deep they are, and that the model's two functions tell it. -/
namespace Go.Proofs.Ytjdhkhpdhblhbaa
open Go.RowKit
set_option linter.unusedVariables false

/-- How many terms are in a list, all storeys. -/
def cntL : (d : Nat) → List (Tm d) → Nat
  | 0, _ => 0
  | d + 1, ts => (ts.map fun t => 1 + cntL d t.L).sum

/-- How deep the deepest of a list is. -/
def depL : (d : Nat) → List (Tm d) → Nat
  | 0, _ => 0
  | d + 1, ts => (ts.map fun t => 1 + depL d t.L).foldl max 0

def cntP (d : Nat) (ts : List (Tm (d + 1))) (i : Nat) : Nat := ((ts.take i).map fun t => 1 + cntL d t.L).sum
def depP (d : Nat) (ts : List (Tm (d + 1))) (i : Nat) : Nat := ((ts.take i).map fun t => 1 + depL d t.L).foldl max 0

theorem cntP_succ (d : Nat) (ts : List (Tm (d + 1))) (i : Nat) (t : Tm (d + 1)) (h : ts[i]? = some t) : cntP d ts (i + 1) = cntP d ts i + (1 + cntL d t.L) := by
  have hl := (List.getElem?_eq_some_iff.1 h).1
  have he := (List.getElem?_eq_some_iff.1 h).2
  unfold cntP
  rw [List.take_succ_eq_append_getElem hl, he]
  simp
theorem depP_succ (d : Nat) (ts : List (Tm (d + 1))) (i : Nat) (t : Tm (d + 1)) (h : ts[i]? = some t) : depP d ts (i + 1) = max (depP d ts i) (1 + depL d t.L) := by
  have hl := (List.getElem?_eq_some_iff.1 h).1
  have he := (List.getElem?_eq_some_iff.1 h).2
  unfold depP
  rw [List.take_succ_eq_append_getElem hl, he]
  simp
theorem cntP_all (d : Nat) (ts : List (Tm (d + 1))) (i : Nat) (h : ts.length ≤ i) : cntP d ts i = cntL (d + 1) ts := by
  unfold cntP; rw [List.take_of_length_le h]; rfl
theorem depP_all (d : Nat) (ts : List (Tm (d + 1))) (i : Nat) (h : ts.length ≤ i) : depP d ts i = depL (d + 1) ts := by
  unfold depP; rw [List.take_of_length_le h]; rfl
theorem cntP_le (d : Nat) (ts : List (Tm (d + 1))) (i : Nat) : cntP d ts i ≤ cntL (d + 1) ts := by
  show _ ≤ (ts.map fun t => 1 + cntL d t.L).sum
  unfold cntP
  conv => rhs; rw [← List.take_append_drop i ts]
  rw [List.map_append, List.sum_append]
  omega

theorem cntL_szL : ∀ (d : Nat) (ts : List (Tm d)), cntL d ts ≤ szL d ts := by
  intro d
  induction d with
  | zero => intro ts; exact Nat.le_refl _
  | succ d ih =>
    intro ts
    show (ts.map fun t => 1 + cntL d t.L).sum ≤ ts.length + (ts.map fun t => t.S.size + szL d t.L).sum
    induction ts with
    | nil => simp
    | cons t r ih2 =>
      have := ih t.L
      simp only [List.map_cons, List.sum_cons, List.length_cons]
      omega

theorem foldl_max_ge (l : List Nat) : ∀ a, a ≤ l.foldl max a ∧ ∀ x ∈ l, x ≤ l.foldl max a := by
  induction l with
  | nil => intro a; exact ⟨Nat.le_refl _, fun x hx => by cases hx⟩
  | cons b r ih =>
    intro a
    have h := ih (max a b)
    refine ⟨by simp only [List.foldl_cons]; omega, fun x hx => ?_⟩
    rcases List.mem_cons.1 hx with rfl | hx
    · simp only [List.foldl_cons]; omega
    · simp only [List.foldl_cons]; exact h.2 x hx
theorem foldl_max_le (l : List Nat) : ∀ (a m : Nat), a ≤ m → (∀ x ∈ l, x ≤ m) → l.foldl max a ≤ m := by
  induction l with
  | nil => intro a m h _; exact h
  | cons b r ih =>
    intro a m h hx
    exact ih (max a b) m (by have := hx b (List.mem_cons_self ..); omega) fun x hx' => hx x (List.mem_cons_of_mem _ hx')

theorem depL_cntL : ∀ (d : Nat) (ts : List (Tm d)), depL d ts ≤ cntL d ts := by
  intro d
  induction d with
  | zero => intro ts; exact Nat.le_refl _
  | succ d ih =>
    intro ts
    refine foldl_max_le _ 0 _ (Nat.zero_le _) fun x hx => ?_
    obtain ⟨t, ht, rfl⟩ := List.mem_map.1 hx
    have h1 := ih t.L
    have h2 : ∀ (l : List (Tm (d + 1))), t ∈ l → 1 + cntL d t.L ≤ (l.map fun t => 1 + cntL d t.L).sum := by
      intro l hl
      induction l with
      | nil => cases hl
      | cons b r ih2 =>
        simp only [List.map_cons, List.sum_cons]
        rcases List.mem_cons.1 hl with rfl | hl
        · omega
        · have := ih2 hl; omega
    have := h2 ts ht
    show 1 + depL d t.L ≤ (ts.map fun t => 1 + cntL d t.L).sum
    omega

theorem depP_le (d : Nat) (ts : List (Tm (d + 1))) (i : Nat) : depP d ts i ≤ depL (d + 1) ts := by
  refine foldl_max_le _ 0 _ (Nat.zero_le _) fun x hx => ?_
  obtain ⟨t, ht, rfl⟩ := List.mem_map.1 hx
  exact (foldl_max_ge _ 0).2 _ (List.mem_map.2 ⟨t, List.mem_of_mem_take ht, rfl⟩)

/-- The contract of a function that tells a number of a term. -/
def Tells (f d : Nat) (g : (d : Nat) → List (Tm d) → Nat) : Prop := ∀ (k n : Int) (s : ByteArray) (l : Value) (ts : List (Tm d)) (w : World), RdL d w l ts → WfL d ts → cntL d ts ≤ 1099511627776 →
  Calls Try.prog f #[.agg #[.int .i64 k, .int .i64 n, .string s, l]] w fun e w' => e = .returned (.int .i64 (1 + g d ts : Nat)) ∧ Below w.heap.size w w'

theorem cnt_elem {d : Nat} {ts : List (Tm (d + 1))} {j : Nat} {t : Tm (d + 1)} (ht : ts[j]? = some t) (h : cntL (d + 1) ts ≤ 1099511627776) : cntL d t.L ≤ 1099511627776 := by
  have h1 := cntP_succ d ts j t ht
  have h2 := cntP_le d ts (j + 1)
  omega

set_option maxHeartbeats 1000000 in
theorem specCountOf_any : ∀ d, Tells 14 d cntL := by
  intro d
  induction d with
  | zero =>
    intro k n s l ts w hr hw hc
    obtain ⟨a, c, rfl⟩ := hr
    have hA : Below w.heap.size w (w.alloc (.cells #[.int .i64 k, .int .i64 n, .string s, .slice a 0 c] 29)) := (Below.refl _ _).alloc (Nat.le_refl _) _
    go_enter Try.func14, Try.ntmps14
    go_wp2
    refine wp_loop_rounds 1 ?_
    rw [rounds_succ]
    go_wp2
    go_ret
    exact ⟨rfl, hA⟩
  | succ d ih =>
    intro k n s l ts w hr hw hc
    obtain ⟨a, c, rfl, hel⟩ := hr
    have HE : Hid (∀ (i : Nat) (t : Tm (d + 1)), ts[i]? = some t → ∃ b o lv, a = some ⟨b, o, none⟩ ∧ Four w b (o + i * 4) t.K t.N t.S lv ∧ RdL d w lv t.L) := hel
    have HW : Hid (WfL (d + 1) ts) := hw
    have HCC : Hid (cntL (d + 1) ts ≤ 1099511627776) := hc
    have hm : ts.length ≤ 9223372036854775807 := hw.1
    obtain ⟨len, hl⟩ : ∃ len, ts.length = len := ⟨_, rfl⟩
    have HL : Hid (ts.length = len) := hl
    rw [hl] at hm ⊢
    obtain ⟨W, hW⟩ : ∃ W, W = w.alloc (.cells #[.int .i64 k, .int .i64 n, .string s, .slice a len c] 29) := ⟨_, rfl⟩
    have hA : Below w.heap.size w W := by rw [hW]; exact (Below.refl _ _).alloc (Nat.le_refl _) _
    have hWz : W.heap.size = w.heap.size + 1 := by rw [hW]; simp
    have hB1 : W.heap[w.heap.size]? = some (.cells #[.int .i64 k, .int .i64 n, .string s, .slice a len c] 29 (0, 0)) := by rw [hW]; exact heap_alloc_new w _
    have HI : Hid (Tells 14 d cntL) := ih
    clear ih hel hw hl hc
    go_enter Try.func14, Try.ntmps14
    go_wp2_with fail
    rw [← hW]
    clear hW
    go_loopw [3, 4] (fun x i wr => ∃ j : Nat, j ≤ len ∧ i = .int .i64 j ∧ x = .int .i64 (1 + cntP d ts j : Nat) ∧ Below W.heap.size W wr) (fun _ i _ => len - (intOf i).toNat)
    case atStart => exact ⟨0, Nat.zero_le _, rfl, rfl, Below.refl _ _⟩
    case round =>
      obtain ⟨j, hj, rfl, rfl, hb⟩ := hrel
      have c1 : wr.cell? ⟨w.heap.size, 3, none⟩ = some (.slice a len c) := by rw [cell_of_row wr _ 3 _ _ _ ((hb.block _ (by omega)).trans hB1)]; rfl
      have hbw : Below w.heap.size w wr := hA.trans (hb.mono (by omega))
      obtain ⟨P, hP⟩ : ∃ P, cntP d ts j = P := ⟨_, rfl⟩
      have HP : Hid (cntP d ts j = P) := hP
      have hPb : P ≤ 1099511627776 := by have := cntP_le d ts j; have := HCC.out; omega
      rw [hP]
      clear hP
      by_cases hjl : j < len
      · obtain ⟨t, ht⟩ : ∃ t, ts[j]? = some t := ⟨_, List.getElem?_eq_getElem (by rw [HL.out]; exact hjl)⟩
        obtain ⟨b1, o1, lv1, rfl, F1, L1⟩ := HE.out j t ht
        obtain ⟨_, _, _, hwt⟩ := HW.out.2 t (List.mem_of_getElem? ht)
        obtain ⟨f0, f1, f2, f3⟩ := F1.later hbw
        have hct := cnt_elem ht HCC.out
        have hC := HI.out t.K t.N t.S lv1 t.L wr (L1.later hbw) hwt hct
        have HS : Hid (cntP d ts (j + 1) = P + (1 + cntL d t.L)) := by rw [← HP.out]; exact cntP_succ d ts j t ht
        obtain ⟨q, hq⟩ : ∃ q, cntL d t.L = q := ⟨_, rfl⟩
        rw [hq] at hC hct HS
        have hjl' : (j : Int) < (len : Int) := by omega
        clear F1 L1 hwt ht hq HI
        go_wp2_with fail
        refine hC.mono ?_
        clear hC
        rintro e V ⟨rfl, hB⟩
        have hb2 : Below W.heap.size W V := hb.trans (hB.mono hb.size)
        clear hb hB f0 f1 f2 f3 c1
        go_wp2
        go_roundw
        case rel => exact ⟨j + 1, by omega, by go_num, by rw [HS.out]; go_num, hb2⟩
        case measure => simp [intOf]; omega
      · have HF : Hid (P = cntL (d + 1) ts) := by rw [← HP.out]; exact cntP_all d ts j (by have := HL.out; omega)
        clear hb HI
        go_wp2
        go_ret
        exact ⟨tret1 (by rw [← HF.out]), hbw⟩

set_option maxHeartbeats 1000000 in
theorem specDepthOf_any : ∀ d, Tells 16 d depL := by
  intro d
  induction d with
  | zero =>
    intro k n s l ts w hr hw hc
    obtain ⟨a, c, rfl⟩ := hr
    have hA : Below w.heap.size w (w.alloc (.cells #[.int .i64 k, .int .i64 n, .string s, .slice a 0 c] 29)) := (Below.refl _ _).alloc (Nat.le_refl _) _
    go_enter Try.func16, Try.ntmps16
    go_wp2
    refine wp_loop_rounds 1 ?_
    rw [rounds_succ]
    go_wp2
    go_ret
    exact ⟨rfl, hA⟩
  | succ d ih =>
    intro k n s l ts w hr hw hc
    obtain ⟨a, c, rfl, hel⟩ := hr
    have HE : Hid (∀ (i : Nat) (t : Tm (d + 1)), ts[i]? = some t → ∃ b o lv, a = some ⟨b, o, none⟩ ∧ Four w b (o + i * 4) t.K t.N t.S lv ∧ RdL d w lv t.L) := hel
    have HW : Hid (WfL (d + 1) ts) := hw
    have HCC : Hid (cntL (d + 1) ts ≤ 1099511627776) := hc
    have hm : ts.length ≤ 9223372036854775807 := hw.1
    obtain ⟨len, hl⟩ : ∃ len, ts.length = len := ⟨_, rfl⟩
    have HL : Hid (ts.length = len) := hl
    rw [hl] at hm ⊢
    obtain ⟨W, hW⟩ : ∃ W, W = w.alloc (.cells #[.int .i64 k, .int .i64 n, .string s, .slice a len c] 29) := ⟨_, rfl⟩
    have hA : Below w.heap.size w W := by rw [hW]; exact (Below.refl _ _).alloc (Nat.le_refl _) _
    have hWz : W.heap.size = w.heap.size + 1 := by rw [hW]; simp
    have hB1 : W.heap[w.heap.size]? = some (.cells #[.int .i64 k, .int .i64 n, .string s, .slice a len c] 29 (0, 0)) := by rw [hW]; exact heap_alloc_new w _
    have HI : Hid (Tells 16 d depL) := ih
    clear ih hel hw hl hc
    go_enter Try.func16, Try.ntmps16
    go_wp2_with fail
    rw [← hW]
    clear hW
    go_loopw [3, 4] (fun x i wr => ∃ j : Nat, j ≤ len ∧ i = .int .i64 j ∧ x = .int .i64 (depP d ts j : Nat) ∧ Below W.heap.size W wr) (fun _ i _ => len - (intOf i).toNat)
    case atStart => exact ⟨0, Nat.zero_le _, rfl, rfl, Below.refl _ _⟩
    case round =>
      obtain ⟨j, hj, rfl, rfl, hb⟩ := hrel
      have c1 : wr.cell? ⟨w.heap.size, 3, none⟩ = some (.slice a len c) := by rw [cell_of_row wr _ 3 _ _ _ ((hb.block _ (by omega)).trans hB1)]; rfl
      have hbw : Below w.heap.size w wr := hA.trans (hb.mono (by omega))
      obtain ⟨P, hP⟩ : ∃ P, depP d ts j = P := ⟨_, rfl⟩
      have HP : Hid (depP d ts j = P) := hP
      have hPb : P ≤ 1099511627776 := by have := depP_le d ts j; have := depL_cntL (d + 1) ts; have := HCC.out; omega
      rw [hP]
      clear hP
      by_cases hjl : j < len
      · obtain ⟨t, ht⟩ : ∃ t, ts[j]? = some t := ⟨_, List.getElem?_eq_getElem (by rw [HL.out]; exact hjl)⟩
        obtain ⟨b1, o1, lv1, rfl, F1, L1⟩ := HE.out j t ht
        obtain ⟨_, _, _, hwt⟩ := HW.out.2 t (List.mem_of_getElem? ht)
        obtain ⟨f0, f1, f2, f3⟩ := F1.later hbw
        have hct := cnt_elem ht HCC.out
        have hC := HI.out t.K t.N t.S lv1 t.L wr (L1.later hbw) hwt hct
        have hdt := depL_cntL d t.L
        have HS : Hid (depP d ts (j + 1) = max P (1 + depL d t.L)) := by rw [← HP.out]; exact depP_succ d ts j t ht
        obtain ⟨q, hq⟩ : ∃ q, depL d t.L = q := ⟨_, rfl⟩
        rw [hq] at hC hdt HS
        have hjl' : (j : Int) < (len : Int) := by omega
        clear F1 L1 hwt ht hq HI
        by_cases hgt : P < 1 + q
        · have hgt' : (P : Int) < ((1 + q : Nat) : Int) := by omega
          have HS2 : Hid (depP d ts (j + 1) = 1 + q) := by rw [HS.out]; show _ = _; omega
          go_wp2_with fail
          refine hC.mono ?_
          clear hC
          rintro e V ⟨rfl, hB⟩
          have hb2 : Below W.heap.size W V := hb.trans (hB.mono hb.size)
          clear hb hB f0 f1 f2 f3 c1
          go_wp2
          go_roundw
          case rel => exact ⟨j + 1, by omega, by go_num, by rw [HS2.out]; go_num, hb2⟩
          case measure => simp [intOf]; omega
        · have HS2 : Hid (depP d ts (j + 1) = P) := by rw [HS.out]; show _ = _; omega
          have hgt' : ¬ (P : Int) < ((1 + q : Nat) : Int) := by omega
          go_wp2_with fail
          refine hC.mono ?_
          clear hC
          rintro e V ⟨rfl, hB⟩
          have hb2 : Below W.heap.size W V := hb.trans (hB.mono hb.size)
          clear hb hB f0 f1 f2 f3 c1
          go_wp2
          go_roundw
          case rel => exact ⟨j + 1, by omega, by go_num, by rw [HS2.out], hb2⟩
          case measure => simp [intOf]; omega
      · have HF : Hid (P = depL (d + 1) ts) := by rw [← HP.out]; exact depP_all d ts j (by have := HL.out; omega)
        clear hb HI
        go_wp2
        go_ret
        exact ⟨tret1 (by rw [← HF.out]; omega), hbw⟩

end Go.Proofs.Ytjdhkhpdhblhbaa

/- How a list of terms that came in is read: to whatever depth. -/
namespace Go.Proofs.Ytjdhkhpdhblhbaa
open Go.RowKit Go.ChangeShapes Go.WideShapes Go.Joins Go.Deep

theorem cells4 {w : World} {base : Nat} {a : Addr} {cs : List Value} (h : w.cells? base a 4 = some cs) :
    ∃ c0 c1 c2 c3, cs = [c0, c1, c2, c3] ∧ w.cell? (a.add 0) = some c0 ∧ w.cell? (a.add 1) = some c1 ∧ w.cell? (a.add 2) = some c2 ∧ w.cell? (a.add 3) = some c3 := by
  unfold World.cells? at h
  split at h
  · simp only [show List.range 4 = [0, 1, 2, 3] from rfl, List.mapM_cons, List.mapM_nil, Option.bind_eq_bind, Option.pure_def] at h
    obtain ⟨c0, h0, h⟩ := Option.bind_eq_some_iff.1 h
    obtain ⟨r1, h, e0⟩ := Option.bind_eq_some_iff.1 h
    obtain ⟨c1, h1, h⟩ := Option.bind_eq_some_iff.1 h
    obtain ⟨r2, h, e1⟩ := Option.bind_eq_some_iff.1 h
    obtain ⟨c2, h2, h⟩ := Option.bind_eq_some_iff.1 h
    obtain ⟨r3, h, e2⟩ := Option.bind_eq_some_iff.1 h
    obtain ⟨c3, h3, h⟩ := Option.bind_eq_some_iff.1 h
    obtain ⟨r4, h, e3⟩ := Option.bind_eq_some_iff.1 h
    cases h
    cases e3
    cases e2
    cases e1
    cases e0
    exact ⟨c0, c1, c2, c3, rfl, h0, h1, h2, h3⟩
  · cases h

theorem Try.cellsTerm : Try.prog.cellsOf 24 = 4 := by kernel_rfl
theorem Try.cells3 : Try.prog.cellsOf 3 = 1 := by kernel_rfl
theorem Try.cells9 : Try.prog.cellsOf 9 = 1 := by kernel_rfl
theorem Try.cellsTerms : Try.prog.cellsOf 22 = 1 := by kernel_rfl

section
variable {H : Type} {enc : TypeId × Value → H} {W : World} {base : Nat} {spare : Nat → Bool} {held : Bool}

/-- A term's four fields, out of the reading of its four cells. -/
theorem read_four {n : Nat} {c0 c1 c2 c3 : Value} {x : DataW H × List MemPlace} (h : DataW.trod enc Try.prog W base spare held n 24 [c0, c1, c2, c3] = some x) :
    ∃ (m : Nat) (k l : Int) (s : ByteArray) (y : DataW H × List MemPlace), n = m + 1 ∧ c0 = .int .i64 k ∧ c1 = .int .i64 l ∧ c2 = .string s ∧ I64 k ∧ I64 l ∧ s.size ≤ maxLen ∧ DataW.trod enc Try.prog W base spare held m 22 [c3] = some y := by
  obtain ⟨xs, m, rfl, _, _, hl, hf⟩ := DataW.trod_struct Try.underlying24 h
  have hl4 : xs.length = 4 := hl
  have h0 : DataW.trod enc Try.prog W base spare held m 3 [c0] = xs[0]? := by have := hf 0 _ rfl; simpa [Try.cells3] using this
  have h1 : DataW.trod enc Try.prog W base spare held m 3 [c1] = xs[1]? := by have := hf 1 _ rfl; simpa [Try.cells3] using this
  have h2 : DataW.trod enc Try.prog W base spare held m 9 [c2] = xs[2]? := by have := hf 2 _ rfl; simpa [Try.cells9] using this
  have h3 : DataW.trod enc Try.prog W base spare held m 22 [c3] = xs[3]? := by have := hf 3 _ rfl; simpa [Try.cellsTerms] using this
  rw [List.getElem?_eq_getElem (by omega)] at h0 h1 h2 h3
  obtain ⟨k, e0, _, wk⟩ := DataW.trod_int Try.underlying3 h0
  obtain ⟨l, e1, _, wl⟩ := DataW.trod_int Try.underlying3 h1
  obtain ⟨s, e2, _, hs⟩ := DataW.trod_string Try.underlying9 h2
  simp only [List.cons.injEq, and_true] at e0 e1 e2
  exact ⟨m, k, l, s, _, rfl, e0, e1, e2, bounds_i64 wk, bounds_i64 wl, hs, h3⟩

set_option maxRecDepth 100000 in
theorem read_terms : ∀ (m d : Nat), m ≤ d → ∀ (v : Value) (x : DataW H × List MemPlace), DataW.trod enc Try.prog W base spare held m 22 [v] = some x → ∃ ts : List (Tm d), RdL d W v ts ∧ WfL d ts := by
  intro m
  induction m using Nat.strongRecOn with
  | ind m ih =>
    intro d hd v x h
    rcases DataW.trod_slice Try.underlying22 h with ⟨hv, _⟩ | ⟨a, len, cap, elems, rest, n, rfl, hv, _, _, hlc, hcm, hel, hx, _, _⟩
    · simp only [List.cons.injEq, and_true] at hv
      subst hv
      cases d with
      | zero => exact ⟨[], ⟨_, _, rfl⟩, trivial⟩
      | succ d => exact ⟨[], ⟨_, _, rfl, fun i t ht => by simp at ht⟩, by simp, fun t ht => by cases ht⟩
    · simp only [List.cons.injEq, and_true] at hv
      subst hv
      obtain ⟨d, rfl⟩ : ∃ d', d = d' + 1 := ⟨d - 1, by omega⟩
      have one : ∀ i, i < len → ∃ t : Tm (d + 1), ∃ b o lv, a = ⟨b, o, none⟩ ∧ Four W b (o + i * 4) t.K t.N t.S lv ∧ RdL d W lv t.L ∧ I64 t.K ∧ I64 t.N ∧ t.S.size ≤ maxLen ∧ WfL d t.L := by
        intro i hi
        have h1 := hx i hi
        rw [List.getElem?_eq_getElem (by omega), Try.cellsTerm] at h1
        obtain ⟨cs, hc, h2⟩ := Option.bind_eq_some_iff.1 h1
        obtain ⟨c0, c1, c2, c3, rfl, k0, k1, k2, k3⟩ := cells4 hc
        obtain ⟨m', k, l, s, y, rfl, rfl, rfl, rfl, wk, wl, ws, hy⟩ := read_four h2
        obtain ⟨ts, hr, hw⟩ := ih m' (by omega) d (by omega) c3 y hy
        rw [Deep.add_add] at k0 k1 k2 k3
        have hspot : a.spot = none := by
          have h3 := hx 0 (by omega)
          rw [List.getElem?_eq_getElem (by omega), Try.cellsTerm] at h3
          obtain ⟨cs', hc', _⟩ := Option.bind_eq_some_iff.1 h3
          obtain ⟨_, _, _, _, _, z0, _⟩ := cells4 hc'
          have := World.cell?_spot z0
          simpa [Addr.add] using this
        obtain ⟨b, o, sp⟩ := a
        simp only at hspot
        subst hspot
        simp only [Addr.add_lit, Nat.add_zero, ← Nat.add_assoc] at k0 k1 k2 k3
        exact ⟨(k, l, s, ts), b, o, c3, rfl, ⟨k0, k1, k2, k3⟩, hr, wk, wl, ws, hw⟩
      haveI : Inhabited (Tm (d + 1)) := ⟨((0, 0, ByteArray.empty, []) : Int × Int × ByteArray × List (Tm d))⟩
      obtain ⟨f, hf⟩ := choose_lt one
      refine ⟨(List.range len).map f, ⟨some a, cap, by simp, fun i t ht => ?_⟩, by simp; unfold maxLen at hcm; omega, fun t ht => ?_⟩
      · have hi : i < len := by have := (List.getElem?_eq_some_iff.1 ht).1; simpa using this
        obtain ⟨b, o, lv, e, h4, h5, _⟩ := hf i hi
        have et : f i = t := by simpa [hi] using ht
        rw [et] at h4 h5
        exact ⟨b, o, lv, by rw [e], h4, h5⟩
      · obtain ⟨i, hi, rfl⟩ := List.mem_map.1 ht
        obtain ⟨b, o, lv, _, _, _, h1, h2, h3, h4⟩ := hf i (List.mem_range.1 hi)
        exact ⟨h1, h2, h3, h4⟩

set_option maxRecDepth 100000 in
/-- A term that came in by value. -/
theorem read_term {r : Reach} {b0 : Nat} {v : Value} {x : DataW H} {p : List MemPlace} (hv : Value.okWide Try.prog W r b0 24 v) (h : DataW.Trod enc Try.prog W base spare held 24 v x p) :
    ∃ M, ∀ d, M ≤ d → ∃ (k n : Int) (s : ByteArray) (lv : Value) (ts : List (Tm d)), v = .agg #[.int .i64 k, .int .i64 n, .string s, lv] ∧ I64 k ∧ I64 n ∧ s.size ≤ maxLen ∧ RdL d W lv ts ∧ WfL d ts := by
  obtain ⟨cs, rfl, hsz⟩ := okWide_struct Try.underlying24 hv
  obtain ⟨c0, c1, c2, c3, rfl⟩ := array4 (hsz.trans Try.cellsTerm)
  obtain ⟨fuel, hf⟩ := h
  have hf' : DataW.trod enc Try.prog W base spare held fuel 24 [c0, c1, c2, c3] = some (x, p) := hf
  obtain ⟨m, k, l, s, y, rfl, rfl, rfl, rfl, wk, wl, ws, hy⟩ := read_four hf'
  refine ⟨m, fun d hd => ?_⟩
  obtain ⟨ts, hr, hw⟩ := read_terms m d hd c3 y hy
  exact ⟨k, l, s, c3, ts, rfl, wk, wl, ws, hr, hw⟩
end
end Go.Proofs.Ytjdhkhpdhblhbaa
