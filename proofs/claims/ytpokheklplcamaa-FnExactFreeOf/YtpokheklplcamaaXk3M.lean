/- The law's own marks on an expression; its comparison and marks of lists of texts. -/
import Derived.Test.YtpokheklplcamaaXk0M
import Derived.Test.YtpokheklplcamaaSVarsM
import Derived.Test.YtpokheklplcamaaTmM
import Derived.BigQuiet
namespace Go.Proofs.Ytpokheklplcamaa
open Go.RowKit
set_option linter.unusedVariables false

theorem mark_empty5 (v : Value) (q : Int) (w : World) (hv : ∃ a c, v = .slice a 0 c) (h0 : 0 ≤ q) : Calls Try.prog 50 #[v, .int .i64 q] w fun e w' => e = .returned (.int .i64 q) ∧ w = w' := by
  obtain ⟨a, c, rfl⟩ := hv
  go_enter Try.func50, Try.ntmps50
  go_wp2
  refine wp_loop_rounds 1 ?_
  rw [rounds_succ]
  go_wp2
  go_ret
  exact ⟨rfl, rfl⟩
theorem mark_empty10 (v : Value) (q : Int) (w : World) (hv : ∃ a c, v = .slice a 0 c) (h0 : 0 ≤ q) : Calls Try.prog 51 #[v, .int .i64 q] w fun e w' => e = .returned (.int .i64 q) ∧ w = w' := by
  obtain ⟨a, c, rfl⟩ := hv
  go_enter Try.func51, Try.ntmps51
  go_wp2
  refine wp_loop_rounds 1 ?_
  rw [rounds_succ]
  go_wp2
  go_ret
  exact ⟨rfl, rfl⟩

theorem OwnRow.none {α : Type} {k : Nat} {T : TypeId} {O : World → List Value → α → List Nat → Prop} {w : World} {v : Value} {xs : List α} {fp : List Nat} (h : OwnRow k T O w v xs fp) (hO : ∀ w vs x f, ¬ O w vs x f) : ∃ a c, v = .slice a 0 c := by
  rcases h with ⟨_, _, e⟩ | ⟨g, c, cur, fps, e, _, _, _, h4⟩
  · exact e
  · cases xs with
    | nil => exact ⟨_, c, e⟩
    | cons x r =>
      obtain ⟨vs, f, _, _, _, ho⟩ := h4 0 x rfl
      exact absurd ho (hO _ _ _ _)

theorem marks_any : ∀ d, MkL 50 5 27 (ExO d) (fun x => 3 + ckX d x) ∧ MkL 51 10 33 (ClO (ExO d)) (fun c => 6 + ckX d c.1 + ckX d c.2) := by
  intro d
  induction d with
  | zero =>
    refine ⟨fun v xs fp q w hown hnd h0 h1 h2 => ?_, fun v xs fp q w hown hnd h0 h1 h2 => ?_⟩
    · refine (mark_empty5 v q w (hown.none fun _ _ _ _ h => h) h0).mono ?_
      rintro e w' ⟨rfl, rfl⟩
      exact ⟨q, rfl, h0, by omega, Wrote.refl _ _⟩
    · refine (mark_empty10 v q w (hown.none fun _ _ _ _ h => by obtain ⟨_, _, _, _, _, _, h, _⟩ := h; exact h) h0).mono ?_
      rintro e w' ⟨rfl, rfl⟩
      exact ⟨q, rfl, h0, by omega, Wrote.refl _ _⟩
  | succ d ih => exact ⟨markExprS_of d ih.1 ih.2, markClauseS_of d ih.1 ih.2⟩

theorem markExpr_any (d : Nat) (vs : List Value) (e : Ex d) (fp : List Nat) (q : Int) (w : World) (hown : ExO d w vs e fp) (hnd : fp.Nodup) (h0 : 0 ≤ q) (h1 : q + (ckX d e : Nat) ≤ 1099511627776) :
    Calls Try.prog 23 #[.agg vs.toArray, .int .i64 q] w fun r w' => ∃ q' : Int, r = .returned (.int .i64 q') ∧ 0 ≤ q' ∧ Wrote fp w w' := by
  cases d with
  | zero => exact hown.elim
  | succ d =>
    obtain ⟨ve, vc, f, g, rfl, rfl, hE, hC⟩ := hown
    obtain ⟨a3, c3, rfl⟩ := (hE.rd (ExO.reads d)).slice
    obtain ⟨a4, c4, rfl⟩ := (hC.rd (ClO.reads (ExO.reads d))).slice
    have hfa := List.nodup_append.1 hnd
    have hck : ckX (d + 1) e = (e.E.map fun x => 3 + ckX d x).sum + (e.C.map fun c => 6 + ckX d c.1 + ckX d c.2).sum := rfl
    have l1 := len_sum (fun x : Ex d => 3 + ckX d x) e.E (fun x => by omega)
    have l2 := len_sum (fun c : Ex d × Ex d => 6 + ckX d c.1 + ckX d c.2) e.C (fun x => by omega)
    obtain ⟨l3, e3⟩ : ∃ l, e.E.length = l := ⟨_, rfl⟩
    obtain ⟨l4, e4⟩ : ∃ l, e.C.length = l := ⟨_, rfl⟩
    rw [e3] at hE ⊢
    rw [e4] at hC ⊢
    obtain ⟨W, hW⟩ : ∃ W, W = w.alloc (Obj.cells #[.int .i64 e.K, .int .i64 e.N, .string e.S, .slice a3 l3 c3, .slice a4 l4 c4] 27) := ⟨_, rfl⟩
    have hA : Below w.heap.size w W := by rw [hW]; exact (Below.refl _ _).alloc (Nat.le_refl _) _
    have hWc : W.heap[w.heap.size]? = some (Obj.cells #[.int .i64 e.K, .int .i64 e.N, .string e.S, .slice a3 l3 c3, .slice a4 l4 c4] 27 (0, 0)) := by rw [hW]; exact heap_alloc_new w _
    have hltE := hE.lt (ExO.lt d)
    have hltC := hC.lt (ClO.lt (ExO.lt d))
    have hE1 := hE.frame (w' := W) (ExO.lasts d) fun y hy => hA.block y (hltE y hy)
    have hCa := (marks_any d).1 _ _ f q W hE1 hfa.1 h0 (by omega) (by omega)
    have HCB : Hid (∀ (V : World) (q1 : Int), Wrote f W V → 0 ≤ q1 → q1 ≤ q + ((e.E.map fun x => 3 + ckX d x).sum : Nat) → _) := fun V q1 hV hq hq1 => (marks_any d).2 (.slice a4 l4 c4) e.C g q1 V (hC.frame (w' := V) (ClO.lasts (ExO.lasts d)) fun y hy => (hV.block y (Nat.lt_of_lt_of_le (hltC y hy) hA.size) (fun hm => hfa.2.2 y hm y hy rfl)).trans (hA.block y (hltC y hy))) hfa.2.1 hq (by omega) (by omega)
    have HZ : Hid (w.heap.size ∉ f ∧ w.heap.size < W.heap.size ∧ Wrote (f ++ g) w W) := ⟨fun hm => by have := hltE _ hm; omega, lt_row hWc, Wrote.of_below hA⟩
    have HWC : Hid _ := hWc
    rw [hW] at hCa
    have HW : Hid (W = _) := hW
    obtain ⟨SE, hSE⟩ : ∃ n, (e.E.map fun x => 3 + ckX d x).sum = n := ⟨_, rfl⟩
    rw [hSE] at hCa HCB
    obtain ⟨K, hK⟩ : ∃ K, e.K = K := ⟨_, rfl⟩
    obtain ⟨N, hN⟩ : ∃ N, e.N = N := ⟨_, rfl⟩
    obtain ⟨S, hS⟩ : ∃ S, e.S = S := ⟨_, rfl⟩
    rw [hK, hN, hS] at hCa HW HWC ⊢
    have hqb : q + (SE : Int) ≤ 1099511627776 := by omega
    clear hE hC hE1 hW hWc hA hltE hltC hfa hnd hck l1 l2 e3 e4 hK hN hS h1 hSE
    go_enter Try.func23, Try.ntmps23
    go_wp2_with fail
    refine hCa.mono ?_
    clear hCa
    rintro r V ⟨q1, rfl, hq0, hq1, hV⟩
    rw [← HW.out] at hV
    have hh := (hV.block _ HZ.out.2.1 HZ.out.1).trans HWC.out
    have f4 : V.cell? ⟨w.heap.size, 4, none⟩ = some (.slice a4 l4 c4) := by rw [cell_of_row V _ 4 _ _ _ hh]; rfl
    have hD := HCB.out V q1 hV hq0 hq1
    have HV : Hid (Wrote (f ++ g) w V) := HZ.out.2.2.trans (hV.mono fun y hy => List.mem_append_left _ hy)
    clear hh hV HCB
    go_wp2_with fail
    refine hD.mono ?_
    clear hD f4
    rintro r V2 ⟨q2, rfl, hq20, _, hV2⟩
    have HV2 : Hid (Wrote (f ++ g) w V2) := HV.out.trans (hV2.mono fun y hy => List.mem_append_right _ hy)
    clear hV2
    go_wp2
    go_ret
    exact ⟨q2, rfl, hq20, HV2.out⟩

/-- A slice of texts. -/
def TellS (w : World) (v : Value) (l : List ByteArray) : Prop := ∃ a c, v = .slice a l.length c ∧ ∀ (i : Nat) (s : ByteArray), l[i]? = some s → ∃ b o, a = some ⟨b, o, none⟩ ∧ w.cell? ⟨b, o + i, none⟩ = some (.string s)

theorem StrRow.tellS {w : World} {B : Nat} {v : Value} {l : List ByteArray} (h : StrRow w B v l) : TellS w v l := by
  rcases h.2 with ⟨e, h0⟩ | ⟨g, cap, cur, e, _, hg, _, _, _, ht⟩
  · have : l = [] := List.length_eq_zero_iff.1 h0
    subst this
    exact ⟨_, _, e, fun i s hs => by simp at hs⟩
  · refine ⟨_, cap, e, fun i s hs => ⟨g, 0, rfl, ?_⟩⟩
    have hi := (List.getElem?_eq_some_iff.1 hs).1
    rw [Nat.zero_add, cell_of_row w _ _ _ _ _ hg]
    have h1 : (l.map Value.string)[i]? = some (.string s) := by rw [List.getElem?_map, hs]; rfl
    rw [← ht, Nat.mul_one, List.getElem?_take, if_pos hi] at h1
    simpa using h1
theorem TellS.later {w w' : World} {v : Value} {l : List ByteArray} (h : TellS w v l) (hb : Below w.heap.size w w') : TellS w' v l := by
  obtain ⟨a, c, e, h1⟩ := h
  refine ⟨a, c, e, fun i s hs => ?_⟩
  obtain ⟨b, o, h2, h3⟩ := h1 i s hs
  exact ⟨b, o, h2, cell_later hb h3⟩

set_option maxHeartbeats 1000000 in
theorem eqStrs_any (v1 v2 : Value) (l : List ByteArray) (w : World) (h1 : TellS w v1 l) (h2 : TellS w v2 l) (hm : l.length ≤ 9223372036854775807) :
    Calls Try.prog 21 #[v1, v2] w fun e w' => e = .returned (.bool true) ∧ Below w.heap.size w w' := by
  obtain ⟨a1, c1, rfl, e1⟩ := h1
  obtain ⟨a2, c2, rfl, e2⟩ := h2
  have HE1 : Hid (∀ (i : Nat) (s : ByteArray), l[i]? = some s → ∃ b o, a1 = some ⟨b, o, none⟩ ∧ w.cell? ⟨b, o + i, none⟩ = some (.string s)) := e1
  have HE2 : Hid (∀ (i : Nat) (s : ByteArray), l[i]? = some s → ∃ b o, a2 = some ⟨b, o, none⟩ ∧ w.cell? ⟨b, o + i, none⟩ = some (.string s)) := e2
  obtain ⟨len, hlen⟩ : ∃ len, l.length = len := ⟨_, rfl⟩
  have HLN : Hid (l.length = len) := hlen
  rw [hlen] at hm ⊢
  clear hlen e1 e2
  go_enter Try.func21, Try.ntmps21
  go_wp2_with fail
  go_loopw [5] (fun i wr => ∃ k : Nat, k ≤ len ∧ i = .int .i64 k ∧ Below w.heap.size w wr) (fun i _ => len - (intOf i).toNat)
  case atStart => exact ⟨0, Nat.zero_le _, rfl, Below.refl _ _⟩
  case round =>
    obtain ⟨k, hk, rfl, hb⟩ := hrel
    by_cases hkl : k < len
    · obtain ⟨s, hs⟩ : ∃ s, l[k]? = some s := ⟨_, List.getElem?_eq_getElem (by rw [HLN.out]; exact hkl)⟩
      obtain ⟨b, o, rfl, f0⟩ := HE1.out k s hs
      obtain ⟨b2, o2, rfl, g0⟩ := HE2.out k s hs
      have f1 := cell_later hb f0
      have g1 := cell_later hb g0
      have hkl' : (k : Int) < (len : Int) := by omega
      clear f0 g0 hs
      go_wp2_with fail
      go_region
      all_goals
        have hb2 : Below w.heap.size w wr.drew := hb.drew
        clear hb
        go_wp2
        go_roundw
        case rel => exact ⟨k + 1, by omega, by go_num, hb2⟩
        case measure => simp [intOf]; omega
    · go_wp2
      go_ret
      exact ⟨rfl, hb⟩

/-- The marks on n texts from k on. -/
def mks (k : Int) (n : Nat) : List ByteArray := (List.range n).map fun i => mt (k + (i : Nat))

theorem mks_len (k : Int) (n : Nat) : (mks k n).length = n := by simp [mks]
theorem mks_at (k : Int) (n i : Nat) (h : i < n) : (mks k n)[i]? = some (mt (k + (i : Nat))) := by simp [mks, h]

set_option maxHeartbeats 1000000 in
theorem heldStrs_any (v : Value) (n : Nat) (k : Int) (w : World) (h1 : TellS w v (mks k n)) (h0 : 0 ≤ k) (hm : k + (n : Int) ≤ 1099511627776) :
    Calls Try.prog 25 #[v, .int .i64 k] w fun e w' => e = .returned (.int .i64 (k + (n : Int))) ∧ Below w.heap.size w w' := by
  obtain ⟨a1, c1, rfl, e1⟩ := h1
  have HE1 : Hid (∀ (i : Nat) (s : ByteArray), (mks k n)[i]? = some s → ∃ b o, a1 = some ⟨b, o, none⟩ ∧ w.cell? ⟨b, o + i, none⟩ = some (.string s)) := e1
  rw [mks_len]
  clear e1
  go_enter Try.func25, Try.ntmps25
  go_wp2_with fail
  go_loopw [1, 5] (fun x i wr => ∃ j : Nat, j ≤ n ∧ i = .int .i64 j ∧ x = .int .i64 (k + (j : Int)) ∧ Below w.heap.size w wr) (fun _ i _ => n - (intOf i).toNat)
  case atStart => exact ⟨0, Nat.zero_le _, rfl, by show Value.int .i64 k = .int .i64 (k + ((0 : Nat) : Int)); rw [show k + ((0 : Nat) : Int) = k from by omega], Below.refl _ _⟩
  case round =>
    obtain ⟨j, hj, rfl, rfl, hb⟩ := hrel
    by_cases hjl : j < n
    · obtain ⟨b, o, rfl, f0⟩ := HE1.out j _ (mks_at k n j hjl)
      have f1 := cell_later hb f0
      have hjl' : (j : Int) < (n : Int) := by omega
      have HMT : Hid (∀ V : World, Calls Try.prog 52 #[.int .i64 (k + (j : Int))] V fun e w' => e = .returned (.string (mt (k + (j : Int)))) ∧ Below V.heap.size V w') := fun V => markText_any _ V (by omega) (by omega)
      have hn0 := After.some wr
      have p1 := After.cell f1
      clear f0
      go_wp2_with fail
      refine wp_region_after (by kernel_rfl) (by kernel_rfl) ?_
      repeat (go_big_quiet_step ((go_at_call 52; exact calls_after (HMT.out _))))
      refine wpQuiet_nil ?_
      rintro _ ⟨nq, rfl⟩
      have hb2 : Below w.heap.size w nq.now := hb.trans (nq.bel.mono hb.size)
      clear hb f1 p1
      go_wp2
      go_roundw
      case rel => exact ⟨j + 1, by omega, by go_num, by go_num, hb2⟩
      case measure => simp [intOf]; omega
    · obtain rfl : j = n := by omega
      go_wp2
      go_ret
      exact ⟨rfl, hb⟩

end Go.Proofs.Ytpokheklplcamaa

/- The model's SameExpr: two are the same where they are one as data. -/
namespace Go.Proofs.Ytpokheklplcamaa
open Go.RowKit
set_option linter.unusedVariables false

theorem str_eq' {a b : ByteArray} (h : a.toList = b.toList) : a = b := by
  rw [ByteArray.toList_eq, ByteArray.toList_eq] at h
  exact ByteArray.ext (Array.toList_inj.mp h)

/-- Whether two are one. -/
noncomputable def eqv {α : Type} (a b : α) : Bool := @decide (a = b) (Classical.propDecidable _)
theorem eqv_yes {α : Type} {a b : α} (h : a = b) : eqv a b = true := by unfold eqv; exact @decide_eq_true _ (Classical.propDecidable _) h
theorem eqv_no {α : Type} {a b : α} (h : ¬ a = b) : eqv a b = false := by unfold eqv; exact @decide_eq_false _ (Classical.propDecidable _) h

def SmC (d : Nat) : Prop := ∀ (vs us : List Value) (a b : Ex d) (w : World), ExR d w vs a → ExR d w us b → szX d a ≤ 1048576 → szX d b ≤ 1048576 →
  Calls Try.prog 26 #[.agg vs.toArray, .agg us.toArray] w fun e w' => e = .returned (.bool (eqv a b)) ∧ Below w.heap.size w w'

theorem Ex.ext {d : Nat} {a b : Ex (d + 1)} (h0 : a.K = b.K) (h1 : a.N = b.N) (h2 : a.S = b.S) (h3 : a.E = b.E) (h4 : a.C = b.C) : a = b := by
  obtain ⟨a0, a1, a2, a3, a4⟩ := a
  obtain ⟨b0, b1, b2, b3, b4⟩ := b
  have e0 : a0 = b0 := h0
  have e1 : a1 = b1 := h1
  have e2 : a2 = b2 := h2
  have e3 : a3 = b3 := h3
  have e4 : a4 = b4 := h4
  subst e0 e1 e2 e3 e4
  rfl

theorem take_same {α : Type} {xs ys : List α} {j : Nat} {x y : α} (hx : xs[j]? = some x) (hy : ys[j]? = some y) (h : xs.take j = ys.take j) (e : x = y) : xs.take (j + 1) = ys.take (j + 1) := by
  subst e
  have h1 := (List.getElem?_eq_some_iff.1 hx)
  have h2 := (List.getElem?_eq_some_iff.1 hy)
  rw [List.take_succ_eq_append_getElem h1.1, List.take_succ_eq_append_getElem h2.1, h1.2, h2.2, h]
theorem unlike_at {α : Type} {xs ys : List α} {j : Nat} {x y : α} (hx : xs[j]? = some x) (hy : ys[j]? = some y) (e : ¬ x = y) : ¬ xs = ys := fun h => by
  subst h
  rw [hx] at hy
  exact e (Option.some.inj hy)

set_option maxHeartbeats 2000000 in
theorem specSameX_no (k n : Int) (s : ByteArray) (a3 : Option Addr) (l3 c3 : Nat) (a4 : Option Addr) (l4 c4 : Nat) (k2 n2 : Int) (s2 : ByteArray) (b3 : Option Addr) (m3 d3 : Nat) (b4 : Option Addr) (m4 d4 : Nat) (w : World) (q3 : l3 ≤ 1048576) (q4 : l4 ≤ 1048576) (r3 : m3 ≤ 1048576) (r4 : m4 ≤ 1048576) (h : ¬ (k = k2 ∧ n = n2 ∧ s = s2 ∧ l3 = m3 ∧ l4 = m4)) :
    Calls Try.prog 26 #[.agg #[.int .i64 k, .int .i64 n, .string s, .slice a3 l3 c3, .slice a4 l4 c4], .agg #[.int .i64 k2, .int .i64 n2, .string s2, .slice b3 m3 d3, .slice b4 m4 d4]] w fun e w' => e = .returned (.bool false) ∧ Below w.heap.size w w' := by
  have hA : Below w.heap.size w ((w.alloc (.cells #[.int .i64 k, .int .i64 n, .string s, .slice a3 l3 c3, .slice a4 l4 c4] 27)).alloc (.cells #[.int .i64 k2, .int .i64 n2, .string s2, .slice b3 m3 d3, .slice b4 m4 d4] 27)) := ((Below.refl _ _).alloc (Nat.le_refl _) _).alloc (by simp) _
  by_cases h0 : k = k2
  · subst h0
    by_cases h1 : n = n2
    · subst h1
      by_cases h2 : s = s2
      · subst h2
        by_cases h3 : l3 = m3
        · subst h3
          have h4 : ¬ l4 = m4 := fun e => h ⟨rfl, rfl, rfl, rfl, e⟩
          have h4' : ¬ (l4 : Int) = (m4 : Int) := by omega
          clear h
          go_enter Try.func26, Try.ntmps26
          go_wp2_with fail
          go_ret
          exact ⟨rfl, hA⟩
        · have h3' : ¬ (l3 : Int) = (m3 : Int) := by omega
          clear h
          go_enter Try.func26, Try.ntmps26
          go_wp2_with fail
          go_ret
          exact ⟨rfl, hA⟩
      · have h2' : ¬ s.toList = s2.toList := fun e => h2 (str_eq' e)
        clear q3 q4 r3 r4
        clear h
        go_enter Try.func26, Try.ntmps26
        go_wp2_with fail
        go_ret
        exact ⟨rfl, hA⟩
    · clear q3 q4 r3 r4
      clear h
      go_enter Try.func26, Try.ntmps26
      go_wp2_with fail
      go_ret
      exact ⟨rfl, hA⟩
  · clear q3 q4 r3 r4
    clear h
    go_enter Try.func26, Try.ntmps26
    go_wp2_with fail
    go_ret
    exact ⟨rfl, hA⟩

set_option maxRecDepth 100000 in
set_option maxHeartbeats 4000000 in
theorem specSameX_of (d : Nat) (H : SmC d) : SmC (d + 1) := by
  rintro vs us x y w ⟨ve, vc, rfl, h1, h2⟩ ⟨ue, uc, rfl, g1, g2⟩ hz hy
  have hz' : x.S.size + szRow (szX d) x.E + szRow (ClF (szX d)) x.C ≤ 1048576 := hz
  have hy' : y.S.size + szRow (szX d) y.E + szRow (ClF (szX d)) y.C ≤ 1048576 := hy
  obtain ⟨a3, c3, rfl, hel⟩ := h1
  obtain ⟨a4, c4, rfl, hcl⟩ := h2
  obtain ⟨b3, d3, rfl, gel⟩ := g1
  obtain ⟨b4, d4, rfl, gcl⟩ := g2
  have HE : Hid (∀ (i : Nat) (e : Ex d), x.E[i]? = some e → ∃ b o vs, a3 = some ⟨b, o, none⟩ ∧ vs.length = 5 ∧ (∀ (j : Nat) (u : Value), vs[j]? = some u → w.cell? ⟨b, o + i * 5 + j, none⟩ = some u) ∧ ExR d w vs e) := hel
  have HCL : Hid (∀ (i : Nat) (e : Ex d × Ex d), x.C[i]? = some e → ∃ b o vs, a4 = some ⟨b, o, none⟩ ∧ vs.length = 10 ∧ (∀ (j : Nat) (u : Value), vs[j]? = some u → w.cell? ⟨b, o + i * 10 + j, none⟩ = some u) ∧ ClR (ExR d) w vs e) := hcl
  have GE : Hid (∀ (i : Nat) (e : Ex d), y.E[i]? = some e → ∃ b o vs, b3 = some ⟨b, o, none⟩ ∧ vs.length = 5 ∧ (∀ (j : Nat) (u : Value), vs[j]? = some u → w.cell? ⟨b, o + i * 5 + j, none⟩ = some u) ∧ ExR d w vs e) := gel
  have GCL : Hid (∀ (i : Nat) (e : Ex d × Ex d), y.C[i]? = some e → ∃ b o vs, b4 = some ⟨b, o, none⟩ ∧ vs.length = 10 ∧ (∀ (j : Nat) (u : Value), vs[j]? = some u → w.cell? ⟨b, o + i * 10 + j, none⟩ = some u) ∧ ClR (ExR d) w vs e) := gcl
  have e1 : x.E.length ≤ szRow (szX d) x.E := Nat.le_add_right _ _
  have e2 : x.C.length ≤ szRow (ClF (szX d)) x.C := Nat.le_add_right _ _
  have e3 : y.E.length ≤ szRow (szX d) y.E := Nat.le_add_right _ _
  have e4 : y.C.length ≤ szRow (ClF (szX d)) y.C := Nat.le_add_right _ _
  by_cases h : x.K = y.K ∧ x.N = y.N ∧ x.S = y.S ∧ x.E.length = y.E.length ∧ x.C.length = y.C.length
  case neg =>
    refine (specSameX_no x.K x.N x.S a3 _ c3 a4 _ c4 y.K y.N y.S b3 _ d3 b4 _ d4 w (by omega) (by omega) (by omega) (by omega) h).mono ?_
    rintro e w' ⟨rfl, hb⟩
    have : ¬ x = y := fun e => h (by subst e; exact ⟨rfl, rfl, rfl, rfl, rfl⟩)
    exact ⟨by rw [eqv_no this], hb⟩
  obtain ⟨k0, k1, k2, k3, k4⟩ := h
  have HEQ : Hid (∀ j, x.E.length ≤ j → x.E.take j = y.E.take j → ∀ i, x.C.length ≤ i → x.C.take i = y.C.take i → x = y) := fun j hj h3 i hi h4 => by
    rw [List.take_of_length_le hj, List.take_of_length_le (by omega)] at h3
    rw [List.take_of_length_le hi, List.take_of_length_le (by omega)] at h4
    exact Ex.ext k0 k1 k2 h3 h4
  have HNE : Hid (¬ x.E = y.E → ¬ x = y) := fun h e => h (by rw [e])
  have HNC : Hid (¬ x.C = y.C → ¬ x = y) := fun h e => h (by rw [e])
  rw [← k0, ← k1, ← k2, ← k3, ← k4]
  obtain ⟨B, hB⟩ : ∃ B, eqv x y = B := ⟨_, rfl⟩
  have HBY : Hid (x = y → B = true) := fun h => by rw [← hB]; exact eqv_yes h
  have HBN : Hid (¬ x = y → B = false) := fun h => by rw [← hB]; exact eqv_no h
  rw [hB]
  have HZE : Hid (szRow (szX d) x.E ≤ 1048576 ∧ szRow (szX d) y.E ≤ 1048576) := ⟨by omega, by omega⟩
  have HZC : Hid (szRow (ClF (szX d)) x.C ≤ 1048576 ∧ szRow (ClF (szX d)) y.C ≤ 1048576) := ⟨by omega, by omega⟩
  obtain ⟨XY, hXY⟩ : ∃ F : Prop, (x = y) = F := ⟨_, rfl⟩
  rw [hXY] at HBY HBN
  simp only [hXY] at HEQ HNE HNC
  clear hB hXY k0 k1 k2
  obtain ⟨ES, hES⟩ : ∃ l, x.E = l := ⟨_, rfl⟩
  obtain ⟨CS, hCS⟩ : ∃ l, x.C = l := ⟨_, rfl⟩
  obtain ⟨FS, hFS⟩ : ∃ l, y.E = l := ⟨_, rfl⟩
  obtain ⟨DS, hDS⟩ : ∃ l, y.C = l := ⟨_, rfl⟩
  obtain ⟨K, hK⟩ : ∃ K, x.K = K := ⟨_, rfl⟩
  obtain ⟨N, hN⟩ : ∃ N, x.N = N := ⟨_, rfl⟩
  obtain ⟨S, hS⟩ : ∃ S, x.S = S := ⟨_, rfl⟩
  rw [hES, hFS] at HEQ HNE HZE k3
  rw [hCS, hDS] at HEQ HNC HZC k4
  rw [hES] at HE e1 hz'
  rw [hFS] at GE e3 hy'
  rw [hCS] at HCL e2 hz'
  rw [hDS] at GCL e4 hy'
  rw [hK, hN, hS, hES, hCS]
  have hl3 : ES.length ≤ 1048576 := by omega
  have hl4 : CS.length ≤ 1048576 := by omega
  clear hK hN hS hES hCS hFS hDS hz hz' hy hy' hel hcl gel gcl e1 e2 e3 e4
  obtain ⟨l3, hl⟩ : ∃ l, ES.length = l := ⟨_, rfl⟩
  obtain ⟨l4, hl'⟩ : ∃ l, CS.length = l := ⟨_, rfl⟩
  have HL : Hid (ES.length = l3 ∧ FS.length = l3) := ⟨hl, by omega⟩
  have HL4 : Hid (CS.length = l4 ∧ DS.length = l4) := ⟨hl', by omega⟩
  rw [hl, hl'] at HEQ
  rw [hl] at hl3 ⊢
  rw [hl'] at hl4 ⊢
  clear hl hl' k3 k4
  obtain ⟨W, hW⟩ : ∃ W, W = (w.alloc (.cells #[.int .i64 K, .int .i64 N, .string S, .slice a3 l3 c3, .slice a4 l4 c4] 27)).alloc (.cells #[.int .i64 K, .int .i64 N, .string S, .slice b3 l3 d3, .slice b4 l4 d4] 27) := ⟨_, rfl⟩
  have hA : Below w.heap.size w W := by rw [hW]; exact ((Below.refl _ _).alloc (Nat.le_refl _) _).alloc (by simp) _
  have HB1 : Hid (W.heap[w.heap.size]? = some (.cells #[.int .i64 K, .int .i64 N, .string S, .slice a3 l3 c3, .slice a4 l4 c4] 27 (0, 0))) := by rw [hW]; show _ = _; rw [Below.heap_alloc _ _ _ (by simp)]; exact heap_alloc_new w _
  have HB2 : Hid (W.heap[w.heap.size + 1]? = some (.cells #[.int .i64 K, .int .i64 N, .string S, .slice b3 l3 d3, .slice b4 l4 d4] 27 (0, 0))) := by rw [hW]; show _ = _; have := heap_alloc_new (w.alloc (.cells #[.int .i64 K, .int .i64 N, .string S, .slice a3 l3 c3, .slice a4 l4 c4] 27)) (.cells #[.int .i64 K, .int .i64 N, .string S, .slice b3 l3 d3, .slice b4 l4 d4] 27); simpa using this
  have HBW : Hid (Below w.heap.size w W) := hA
  have HWS : Hid (W = _) := hW
  have HI : Hid (SmC d) := H
  clear hW H hA
  go_enter Try.func26, Try.ntmps26
  go_wp2_with fail
  rw [← HWS.out]
  clear HWS
  go_loopw [5] (fun i wr => ∃ (j : Nat), j ≤ l3 ∧ i = .int .i64 j ∧ Hid (Below W.heap.size W wr) ∧ Hid (ES.take j = FS.take j)) (fun i _ => l3 - (intOf i).toNat)
  case atStart => exact ⟨0, Nat.zero_le _, rfl, Below.refl _ _, rfl⟩
  case round =>
    obtain ⟨j, hj, rfl, hb, HS⟩ := hrel
    have hbw : Below w.heap.size w wr := HBW.out.trans (hb.out.mono HBW.out.size)
    have hrow := (hb.out.block _ (lt_row HB1.out)).trans HB1.out
    have hrow2 := (hb.out.block _ (lt_row HB2.out)).trans HB2.out
    have z3 : wr.cell? ⟨w.heap.size, 3, none⟩ = some (.slice a3 l3 c3) := by rw [cell_of_row wr _ 3 _ _ _ hrow]; rfl
    have y3 : wr.cell? ⟨w.heap.size + 1, 3, none⟩ = some (.slice b3 l3 d3) := by rw [cell_of_row wr _ 3 _ _ _ hrow2]; rfl
    clear hrow hrow2
    by_cases hjl : j < l3
    · obtain ⟨t, ht⟩ : ∃ t, ES[j]? = some t := ⟨_, List.getElem?_eq_getElem (by rw [HL.out.1]; exact hjl)⟩
      obtain ⟨u, hu⟩ : ∃ t, FS[j]? = some t := ⟨_, List.getElem?_eq_getElem (by rw [HL.out.2]; exact hjl)⟩
      obtain ⟨b, o, vs, rfl, hvl, hcell, hre⟩ := HE.out j t ht
      obtain ⟨b', o', vs', rfl, hvl', hcell', hre'⟩ := GE.out j u hu
      obtain ⟨y0, y1, y2, ya3, yl3, yc3, ya4, yl4, yc4, rfl⟩ := ExR.shape _ _ _ _ hre
      obtain ⟨v0, v1, v2, va3, vl3, vc3, va4, vl4, vc4, rfl⟩ := ExR.shape _ _ _ _ hre'
      have f0 : wr.cell? ⟨b, o + j * 5, none⟩ = some _ := cell_later hbw (hcell 0 _ rfl)
      have f1 : wr.cell? ⟨b, o + j * 5 + 1, none⟩ = some _ := cell_later hbw (hcell 1 _ rfl)
      have f2 : wr.cell? ⟨b, o + j * 5 + 2, none⟩ = some _ := cell_later hbw (hcell 2 _ rfl)
      have f3 : wr.cell? ⟨b, o + j * 5 + 3, none⟩ = some _ := cell_later hbw (hcell 3 _ rfl)
      have f4 : wr.cell? ⟨b, o + j * 5 + 4, none⟩ = some _ := cell_later hbw (hcell 4 _ rfl)
      have g0 : wr.cell? ⟨b', o' + j * 5, none⟩ = some _ := cell_later hbw (hcell' 0 _ rfl)
      have g1 : wr.cell? ⟨b', o' + j * 5 + 1, none⟩ = some _ := cell_later hbw (hcell' 1 _ rfl)
      have g2 : wr.cell? ⟨b', o' + j * 5 + 2, none⟩ = some _ := cell_later hbw (hcell' 2 _ rfl)
      have g3 : wr.cell? ⟨b', o' + j * 5 + 3, none⟩ = some _ := cell_later hbw (hcell' 3 _ rfl)
      have g4 : wr.cell? ⟨b', o' + j * 5 + 4, none⟩ = some _ := cell_later hbw (hcell' 4 _ rfl)
      have HC : Hid (∀ V : World, Below wr.heap.size wr V → _) := fun V hV => HI.out _ _ t u V (ExR.lasts d _ _ _ _ (ExR.lasts d _ _ _ _ hre hbw) hV) (ExR.lasts d _ _ _ _ (ExR.lasts d _ _ _ _ hre' hbw) hV) (Nat.le_trans (szRow_mem ht) HZE.out.1) (Nat.le_trans (szRow_mem hu) HZE.out.2)
      have hjl' : (j : Int) < (l3 : Int) := by omega
      have hn0 := After.some wr
      have rz := After.cell z3
      have ry := After.cell y3
      have p0 := After.cell f0
      have p1 := After.cell f1
      have p2 := After.cell f2
      have p3 := After.cell f3
      have p4 := After.cell f4
      have q0 := After.cell g0
      have q1 := After.cell g1
      have q2 := After.cell g2
      have q3 := After.cell g3
      have q4 := After.cell g4
      clear hcell hcell' hre hre' hvl hvl' hbw
      by_cases htu : t = u
      · have HS2 : Hid (ES.take (j + 1) = FS.take (j + 1)) := take_same ht hu HS.out htu
        rw [eqv_yes htu] at HC
        clear ht hu htu HS
        go_wp2_with fail
        refine wp_region_after (by kernel_rfl) (by kernel_rfl) ?_
        repeat (go_big_quiet_step ((go_at_call 26; exact calls_after (HC.out _ (After.bel _)))))
        refine wpQuiet_nil ?_
        rintro _ ⟨nq, rfl⟩
        have hb2 : Hid (Below W.heap.size W nq.now) := hb.out.trans (nq.bel.mono hb.out.size)
        clear hb f0 f1 f2 f3 f4 g0 g1 g2 g3 g4 p0 p1 p2 p3 p4 q0 q1 q2 q3 q4 z3 y3 rz ry
        go_wp2_with fail
        go_roundw
        case rel => exact ⟨j + 1, by omega, by go_num, hb2, HS2⟩
        case measure => simp [intOf]; omega
      · have hB : B = false := HBN.out (HNE.out (unlike_at ht hu htu))
        rw [eqv_no htu] at HC
        clear ht hu htu HS
        go_wp2_with fail
        refine wp_region_after (by kernel_rfl) (by kernel_rfl) ?_
        repeat (go_big_quiet_step ((go_at_call 26; exact calls_after (HC.out _ (After.bel _)))))
        refine wpQuiet_nil ?_
        rintro _ ⟨nq, rfl⟩
        have hb2 : Below w.heap.size w nq.now := HBW.out.trans ((hb.out.trans (nq.bel.mono hb.out.size)).mono HBW.out.size)
        clear hb f0 f1 f2 f3 f4 g0 g1 g2 g3 g4 p0 p1 p2 p3 p4 q0 q1 q2 q3 q4 z3 y3 rz ry
        go_wp2_with fail
        go_ret
        exact ⟨by rw [hB]; rfl, hb2⟩
    · obtain rfl : j = l3 := by omega
      have HS2 : Hid _ := HEQ.out _ (Nat.le_refl _) HS.out
      clear hbw HS HE GE HEQ HNE HZE HL
      go_wp2_with fail
      clear z3 y3 hj hjl
      go_loopw [6] (fun i wr => ∃ (j : Nat), j ≤ l4 ∧ i = .int .i64 j ∧ Hid (Below W.heap.size W wr) ∧ Hid (CS.take j = DS.take j)) (fun i _ => l4 - (intOf i).toNat)
      case atStart => exact ⟨0, Nat.zero_le _, rfl, hb, rfl⟩
      case round =>
        clear hb
        obtain ⟨j, hj, rfl, hb, HS⟩ := hrel
        rename World => wr
        have hbw : Below w.heap.size w wr := HBW.out.trans (hb.out.mono HBW.out.size)
        have hrow := (hb.out.block _ (lt_row HB1.out)).trans HB1.out
        have hrow2 := (hb.out.block _ (lt_row HB2.out)).trans HB2.out
        have z3 : wr.cell? ⟨w.heap.size, 4, none⟩ = some (.slice a4 l4 c4) := by rw [cell_of_row wr _ 4 _ _ _ hrow]; rfl
        have y3 : wr.cell? ⟨w.heap.size + 1, 4, none⟩ = some (.slice b4 l4 d4) := by rw [cell_of_row wr _ 4 _ _ _ hrow2]; rfl
        clear hrow hrow2
        by_cases hjl : j < l4
        · obtain ⟨⟨t, t2⟩, ht⟩ : ∃ t, CS[j]? = some t := ⟨_, List.getElem?_eq_getElem (by rw [HL4.out.1]; exact hjl)⟩
          obtain ⟨⟨u, u2⟩, hu⟩ : ∃ t, DS[j]? = some t := ⟨_, List.getElem?_eq_getElem (by rw [HL4.out.2]; exact hjl)⟩
          obtain ⟨b, o, vs, rfl, hvl, hcell, p, q, rfl, hre, hru⟩ := HCL.out j _ ht
          obtain ⟨b', o', vs', rfl, hvl', hcell', p', q', rfl, hre', hru'⟩ := GCL.out j _ hu
          obtain ⟨y0, y1, y2, ya3, yl3, yc3, ya4, yl4, yc4, rfl⟩ := ExR.shape _ _ _ _ hre
          obtain ⟨v0, v1, v2, va3, vl3, vc3, va4, vl4, vc4, rfl⟩ := ExR.shape _ _ _ _ hre'
          obtain ⟨x0, x1, x2, xa3, xl3, xc3, xa4, xl4, xc4, rfl⟩ := ExR.shape _ _ _ _ hru
          obtain ⟨u0, u1, u2', ua3, ul3, uc3, ua4, ul4, uc4, rfl⟩ := ExR.shape _ _ _ _ hru'
          have f0 : wr.cell? ⟨b, o + j * 10, none⟩ = some _ := cell_later hbw (hcell 0 _ rfl)
          have f1 : wr.cell? ⟨b, o + j * 10 + 1, none⟩ = some _ := cell_later hbw (hcell 1 _ rfl)
          have f2 : wr.cell? ⟨b, o + j * 10 + 2, none⟩ = some _ := cell_later hbw (hcell 2 _ rfl)
          have f3 : wr.cell? ⟨b, o + j * 10 + 3, none⟩ = some _ := cell_later hbw (hcell 3 _ rfl)
          have f4 : wr.cell? ⟨b, o + j * 10 + 4, none⟩ = some _ := cell_later hbw (hcell 4 _ rfl)
          have f5 : wr.cell? ⟨b, o + j * 10 + 5, none⟩ = some _ := cell_later hbw (hcell 5 _ rfl)
          have f6 : wr.cell? ⟨b, o + j * 10 + 6, none⟩ = some _ := cell_later hbw (hcell 6 _ rfl)
          have f7 : wr.cell? ⟨b, o + j * 10 + 7, none⟩ = some _ := cell_later hbw (hcell 7 _ rfl)
          have f8 : wr.cell? ⟨b, o + j * 10 + 8, none⟩ = some _ := cell_later hbw (hcell 8 _ rfl)
          have f9 : wr.cell? ⟨b, o + j * 10 + 9, none⟩ = some _ := cell_later hbw (hcell 9 _ rfl)
          have g0 : wr.cell? ⟨b', o' + j * 10, none⟩ = some _ := cell_later hbw (hcell' 0 _ rfl)
          have g1 : wr.cell? ⟨b', o' + j * 10 + 1, none⟩ = some _ := cell_later hbw (hcell' 1 _ rfl)
          have g2 : wr.cell? ⟨b', o' + j * 10 + 2, none⟩ = some _ := cell_later hbw (hcell' 2 _ rfl)
          have g3 : wr.cell? ⟨b', o' + j * 10 + 3, none⟩ = some _ := cell_later hbw (hcell' 3 _ rfl)
          have g4 : wr.cell? ⟨b', o' + j * 10 + 4, none⟩ = some _ := cell_later hbw (hcell' 4 _ rfl)
          have g5 : wr.cell? ⟨b', o' + j * 10 + 5, none⟩ = some _ := cell_later hbw (hcell' 5 _ rfl)
          have g6 : wr.cell? ⟨b', o' + j * 10 + 6, none⟩ = some _ := cell_later hbw (hcell' 6 _ rfl)
          have g7 : wr.cell? ⟨b', o' + j * 10 + 7, none⟩ = some _ := cell_later hbw (hcell' 7 _ rfl)
          have g8 : wr.cell? ⟨b', o' + j * 10 + 8, none⟩ = some _ := cell_later hbw (hcell' 8 _ rfl)
          have g9 : wr.cell? ⟨b', o' + j * 10 + 9, none⟩ = some _ := cell_later hbw (hcell' 9 _ rfl)
          have hz1 : szX d t + szX d t2 ≤ 1048576 := Nat.le_trans (szRow_mem (f := ClF (szX d)) ht) HZC.out.1
          have hz2 : szX d u + szX d u2 ≤ 1048576 := Nat.le_trans (szRow_mem (f := ClF (szX d)) hu) HZC.out.2
          have HC : Hid (∀ V : World, Below wr.heap.size wr V → _) := fun V hV => HI.out _ _ t u V (ExR.lasts d _ _ _ _ (ExR.lasts d _ _ _ _ hre hbw) hV) (ExR.lasts d _ _ _ _ (ExR.lasts d _ _ _ _ hre' hbw) hV) (by omega) (by omega)
          have HC2 : Hid (∀ V : World, Below wr.heap.size wr V → _) := fun V hV => HI.out _ _ t2 u2 V (ExR.lasts d _ _ _ _ (ExR.lasts d _ _ _ _ hru hbw) hV) (ExR.lasts d _ _ _ _ (ExR.lasts d _ _ _ _ hru' hbw) hV) (by omega) (by omega)
          have hjl' : (j : Int) < (l4 : Int) := by omega
          have hn0 := After.some wr
          have rz := After.cell z3
          have ry := After.cell y3
          have r0 := After.cell f0
          have r1 := After.cell f1
          have r2 := After.cell f2
          have r3 := After.cell f3
          have r4 := After.cell f4
          have r5 := After.cell f5
          have r6 := After.cell f6
          have r7 := After.cell f7
          have r8 := After.cell f8
          have r9 := After.cell f9
          have s0 := After.cell g0
          have s1 := After.cell g1
          have s2 := After.cell g2
          have s3 := After.cell g3
          have s4 := After.cell g4
          have s5 := After.cell g5
          have s6 := After.cell g6
          have s7 := After.cell g7
          have s8 := After.cell g8
          have s9 := After.cell g9
          clear hcell hcell' hre hre' hru hru' hvl hvl' hbw hz1 hz2
          by_cases htu : t = u
          · rw [eqv_yes htu] at HC
            by_cases htu2 : t2 = u2
            · have HSN : Hid (CS.take (j + 1) = DS.take (j + 1)) := take_same ht hu HS.out (by rw [htu, htu2])
              rw [eqv_yes htu2] at HC2
              clear ht hu htu htu2 HS
              go_wp2_with fail
              refine wp_region_after (by kernel_rfl) (by kernel_rfl) ?_
              repeat (go_big_quiet_step (first | (go_at_call 26; with_reducible exact calls_after (HC.out _ (After.bel _))) | (go_at_call 26; with_reducible exact calls_after (HC2.out _ (After.bel _)))))
              refine wpQuiet_nil ?_
              rintro _ ⟨nq, rfl⟩
              have hb2 : Hid (Below W.heap.size W nq.now) := hb.out.trans (nq.bel.mono hb.out.size)
              clear hb f0 f1 f2 f3 f4 f5 f6 f7 f8 f9 g0 g1 g2 g3 g4 g5 g6 g7 g8 g9 r0 r1 r2 r3 r4 r5 r6 r7 r8 r9 s0 s1 s2 s3 s4 s5 s6 s7 s8 s9 z3 y3 rz ry
              go_wp2_with fail
              go_roundw
              case rel => exact ⟨j + 1, by omega, by go_num, hb2, HSN⟩
              case measure => simp [intOf]; omega
            · have hB : B = false := HBN.out (HNC.out (unlike_at ht hu (fun e => htu2 (congrArg Prod.snd e))))
              rw [eqv_no htu2] at HC2
              clear ht hu htu htu2 HS
              go_wp2_with fail
              refine wp_region_after (by kernel_rfl) (by kernel_rfl) ?_
              repeat (go_big_quiet_step (first | (go_at_call 26; with_reducible exact calls_after (HC.out _ (After.bel _))) | (go_at_call 26; with_reducible exact calls_after (HC2.out _ (After.bel _)))))
              refine wpQuiet_nil ?_
              rintro _ ⟨nq, rfl⟩
              have hb2 : Below w.heap.size w nq.now := HBW.out.trans ((hb.out.trans (nq.bel.mono hb.out.size)).mono HBW.out.size)
              clear hb f0 f1 f2 f3 f4 f5 f6 f7 f8 f9 g0 g1 g2 g3 g4 g5 g6 g7 g8 g9 r0 r1 r2 r3 r4 r5 r6 r7 r8 r9 s0 s1 s2 s3 s4 s5 s6 s7 s8 s9 z3 y3 rz ry
              go_wp2_with fail
              go_ret
              exact ⟨by rw [hB]; rfl, hb2⟩
          · have hB : B = false := HBN.out (HNC.out (unlike_at ht hu (fun e => htu (congrArg Prod.fst e))))
            rw [eqv_no htu] at HC
            clear ht hu htu HS
            go_wp2_with fail
            refine wp_region_after (by kernel_rfl) (by kernel_rfl) ?_
            repeat (go_big_quiet_step (first | (go_at_call 26; with_reducible exact calls_after (HC.out _ (After.bel _))) | (go_at_call 26; with_reducible exact calls_after (HC2.out _ (After.bel _)))))
            refine wpQuiet_nil ?_
            rintro _ ⟨nq, rfl⟩
            have hb2 : Below w.heap.size w nq.now := HBW.out.trans ((hb.out.trans (nq.bel.mono hb.out.size)).mono HBW.out.size)
            clear hb f0 f1 f2 f3 f4 f5 f6 f7 f8 f9 g0 g1 g2 g3 g4 g5 g6 g7 g8 g9 r0 r1 r2 r3 r4 r5 r6 r7 r8 r9 s0 s1 s2 s3 s4 s5 s6 s7 s8 s9 z3 y3 rz ry
            go_wp2_with fail
            go_ret
            exact ⟨by rw [hB]; rfl, hb2⟩
        · obtain rfl : j = l4 := by omega
          have hB : B = true := HBY.out (HS2.out _ (Nat.le_refl _) HS.out)
          clear HS
          go_wp2_with fail
          go_ret
          exact ⟨by rw [hB]; rfl, hbw⟩

theorem specSameX_any : ∀ d, SmC d := by
  intro d
  induction d with
  | zero => intro vs us a b w h; exact h.elim
  | succ d ih => exact specSameX_of d ih

end Go.Proofs.Ytpokheklplcamaa
