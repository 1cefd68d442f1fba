/- The law's own marks on an expression; its comparison and marks of lists of texts. -/
import Derived.Test.YtpokheklplcamaaXk2
import Derived.Test.YtpokheklplcamaaSVars
import Derived.Test.YtpokheklplcamaaAft
import Derived.BigQuiet
namespace Go.Proofs.Ytpokheklplcamaa
open Go.RowKit
set_option linter.unusedVariables false

theorem mark_empty5 (v : Value) (q : Int) (w : World) (hv : ∃ a c, v = .slice a 0 c) (h0 : 0 ≤ q) : Calls Try.prog 50 #[v, .int .i64 q] w fun e w' => e = .returned (.int .i64 q) ∧ w = w' := by
  obtain ⟨a, c, rfl⟩ := hv
  go_enter Try.func50, Try.ntmps50
  go_wp2
  refine wp_loop_rounds 1 ?_
  rw [rounds_succ]
  go_wp2
  go_ret
  exact ⟨rfl, rfl⟩
theorem mark_empty10 (v : Value) (q : Int) (w : World) (hv : ∃ a c, v = .slice a 0 c) (h0 : 0 ≤ q) : Calls Try.prog 51 #[v, .int .i64 q] w fun e w' => e = .returned (.int .i64 q) ∧ w = w' := by
  obtain ⟨a, c, rfl⟩ := hv
  go_enter Try.func51, Try.ntmps51
  go_wp2
  refine wp_loop_rounds 1 ?_
  rw [rounds_succ]
  go_wp2
  go_ret
  exact ⟨rfl, rfl⟩

theorem OwnRow.none {α : Type} {k : Nat} {T : TypeId} {O : World → List Value → α → List Nat → Prop} {w : World} {v : Value} {xs : List α} {fp : List Nat} (h : OwnRow k T O w v xs fp) (hO : ∀ w vs x f, ¬ O w vs x f) : ∃ a c, v = .slice a 0 c := by
  rcases h with ⟨_, _, e⟩ | ⟨g, c, cur, fps, e, _, _, _, h4⟩
  · exact e
  · cases xs with
    | nil => exact ⟨_, c, e⟩
    | cons x r =>
      obtain ⟨vs, f, _, _, _, ho⟩ := h4 0 x rfl
      exact absurd ho (hO _ _ _ _)

theorem marks_any : ∀ d, MkL 50 5 27 (ExO d) (fun x => 3 + ckX d x) ∧ MkL 51 10 33 (ClO (ExO d)) (fun c => 6 + ckX d c.1 + ckX d c.2) := by
  intro d
  induction d with
  | zero =>
    refine ⟨fun v xs fp q w hown hnd h0 h1 h2 => ?_, fun v xs fp q w hown hnd h0 h1 h2 => ?_⟩
    · refine (mark_empty5 v q w (hown.none fun _ _ _ _ h => h) h0).mono ?_
      rintro e w' ⟨rfl, rfl⟩
      exact ⟨q, rfl, h0, by omega, Wrote.refl _ _⟩
    · refine (mark_empty10 v q w (hown.none fun _ _ _ _ h => by obtain ⟨_, _, _, _, _, _, h, _⟩ := h; exact h) h0).mono ?_
      rintro e w' ⟨rfl, rfl⟩
      exact ⟨q, rfl, h0, by omega, Wrote.refl _ _⟩
  | succ d ih => exact ⟨markExprS_of d ih.1 ih.2, markClauseS_of d ih.1 ih.2⟩

theorem markExpr_any (d : Nat) (vs : List Value) (e : Ex d) (fp : List Nat) (q : Int) (w : World) (hown : ExO d w vs e fp) (hnd : fp.Nodup) (h0 : 0 ≤ q) (h1 : q + (ckX d e : Nat) ≤ 1099511627776) :
    Calls Try.prog 23 #[.agg vs.toArray, .int .i64 q] w fun r w' => ∃ q' : Int, r = .returned (.int .i64 q') ∧ 0 ≤ q' ∧ Wrote fp w w' := by
  cases d with
  | zero => exact hown.elim
  | succ d =>
    obtain ⟨ve, vc, f, g, rfl, rfl, hE, hC⟩ := hown
    obtain ⟨a3, c3, rfl⟩ := (hE.rd (ExO.reads d)).slice
    obtain ⟨a4, c4, rfl⟩ := (hC.rd (ClO.reads (ExO.reads d))).slice
    have hfa := List.nodup_append.1 hnd
    have hck : ckX (d + 1) e = (e.E.map fun x => 3 + ckX d x).sum + (e.C.map fun c => 6 + ckX d c.1 + ckX d c.2).sum := rfl
    have l1 := len_sum (fun x : Ex d => 3 + ckX d x) e.E (fun x => by omega)
    have l2 := len_sum (fun c : Ex d × Ex d => 6 + ckX d c.1 + ckX d c.2) e.C (fun x => by omega)
    obtain ⟨l3, e3⟩ : ∃ l, e.E.length = l := ⟨_, rfl⟩
    obtain ⟨l4, e4⟩ : ∃ l, e.C.length = l := ⟨_, rfl⟩
    rw [e3] at hE ⊢
    rw [e4] at hC ⊢
    obtain ⟨W, hW⟩ : ∃ W, W = w.alloc (Obj.cells #[.int .i64 e.K, .int .i64 e.N, .string e.S, .slice a3 l3 c3, .slice a4 l4 c4] 27) := ⟨_, rfl⟩
    have hA : Below w.heap.size w W := by rw [hW]; exact (Below.refl _ _).alloc (Nat.le_refl _) _
    have hWc : W.heap[w.heap.size]? = some (Obj.cells #[.int .i64 e.K, .int .i64 e.N, .string e.S, .slice a3 l3 c3, .slice a4 l4 c4] 27 (0, 0)) := by rw [hW]; exact heap_alloc_new w _
    have hltE := hE.lt (ExO.lt d)
    have hltC := hC.lt (ClO.lt (ExO.lt d))
    have hE1 := hE.frame (w' := W) (ExO.lasts d) fun y hy => hA.block y (hltE y hy)
    have hCa := (marks_any d).1 _ _ f q W hE1 hfa.1 h0 (by omega) (by omega)
    have HCB : Hid (∀ (V : World) (q1 : Int), Wrote f W V → 0 ≤ q1 → q1 ≤ q + ((e.E.map fun x => 3 + ckX d x).sum : Nat) → _) := fun V q1 hV hq hq1 => (marks_any d).2 (.slice a4 l4 c4) e.C g q1 V (hC.frame (w' := V) (ClO.lasts (ExO.lasts d)) fun y hy => (hV.block y (Nat.lt_of_lt_of_le (hltC y hy) hA.size) (fun hm => hfa.2.2 y hm y hy rfl)).trans (hA.block y (hltC y hy))) hfa.2.1 hq (by omega) (by omega)
    have HZ : Hid (w.heap.size ∉ f ∧ w.heap.size < W.heap.size ∧ Wrote (f ++ g) w W) := ⟨fun hm => by have := hltE _ hm; omega, lt_row hWc, Wrote.of_below hA⟩
    have HWC : Hid _ := hWc
    rw [hW] at hCa
    have HW : Hid (W = _) := hW
    obtain ⟨SE, hSE⟩ : ∃ n, (e.E.map fun x => 3 + ckX d x).sum = n := ⟨_, rfl⟩
    rw [hSE] at hCa HCB
    obtain ⟨K, hK⟩ : ∃ K, e.K = K := ⟨_, rfl⟩
    obtain ⟨N, hN⟩ : ∃ N, e.N = N := ⟨_, rfl⟩
    obtain ⟨S, hS⟩ : ∃ S, e.S = S := ⟨_, rfl⟩
    rw [hK, hN, hS] at hCa HW HWC ⊢
    have hqb : q + (SE : Int) ≤ 1099511627776 := by omega
    clear hE hC hE1 hW hWc hA hltE hltC hfa hnd hck l1 l2 e3 e4 hK hN hS h1 hSE
    go_enter Try.func23, Try.ntmps23
    go_wp2_with fail
    refine hCa.mono ?_
    clear hCa
    rintro r V ⟨q1, rfl, hq0, hq1, hV⟩
    rw [← HW.out] at hV
    have hh := (hV.block _ HZ.out.2.1 HZ.out.1).trans HWC.out
    have f4 : V.cell? ⟨w.heap.size, 4, none⟩ = some (.slice a4 l4 c4) := by rw [cell_of_row V _ 4 _ _ _ hh]; rfl
    have hD := HCB.out V q1 hV hq0 hq1
    have HV : Hid (Wrote (f ++ g) w V) := HZ.out.2.2.trans (hV.mono fun y hy => List.mem_append_left _ hy)
    clear hh hV HCB
    go_wp2_with fail
    refine hD.mono ?_
    clear hD f4
    rintro r V2 ⟨q2, rfl, hq20, _, hV2⟩
    have HV2 : Hid (Wrote (f ++ g) w V2) := HV.out.trans (hV2.mono fun y hy => List.mem_append_right _ hy)
    clear hV2
    go_wp2
    go_ret
    exact ⟨q2, rfl, hq20, HV2.out⟩

/-- A slice of texts. -/
def TellS (w : World) (v : Value) (l : List ByteArray) : Prop := ∃ a c, v = .slice a l.length c ∧ ∀ (i : Nat) (s : ByteArray), l[i]? = some s → ∃ b o, a = some ⟨b, o, none⟩ ∧ w.cell? ⟨b, o + i, none⟩ = some (.string s)

theorem StrRow.tellS {w : World} {B : Nat} {v : Value} {l : List ByteArray} (h : StrRow w B v l) : TellS w v l := by
  rcases h.2 with ⟨e, h0⟩ | ⟨g, cap, cur, e, _, hg, _, _, _, ht⟩
  · have : l = [] := List.length_eq_zero_iff.1 h0
    subst this
    exact ⟨_, _, e, fun i s hs => by simp at hs⟩
  · refine ⟨_, cap, e, fun i s hs => ⟨g, 0, rfl, ?_⟩⟩
    have hi := (List.getElem?_eq_some_iff.1 hs).1
    rw [Nat.zero_add, cell_of_row w _ _ _ _ _ hg]
    have h1 : (l.map Value.string)[i]? = some (.string s) := by rw [List.getElem?_map, hs]; rfl
    rw [← ht, Nat.mul_one, List.getElem?_take, if_pos hi] at h1
    simpa using h1
theorem TellS.later {w w' : World} {v : Value} {l : List ByteArray} (h : TellS w v l) (hb : Below w.heap.size w w') : TellS w' v l := by
  obtain ⟨a, c, e, h1⟩ := h
  refine ⟨a, c, e, fun i s hs => ?_⟩
  obtain ⟨b, o, h2, h3⟩ := h1 i s hs
  exact ⟨b, o, h2, cell_later hb h3⟩

set_option maxHeartbeats 1000000 in
theorem eqStrs_any (v1 v2 : Value) (l : List ByteArray) (w : World) (h1 : TellS w v1 l) (h2 : TellS w v2 l) (hm : l.length ≤ 9223372036854775807) :
    Calls Try.prog 21 #[v1, v2] w fun e w' => e = .returned (.bool true) ∧ Below w.heap.size w w' := by
  obtain ⟨a1, c1, rfl, e1⟩ := h1
  obtain ⟨a2, c2, rfl, e2⟩ := h2
  have HE1 : Hid (∀ (i : Nat) (s : ByteArray), l[i]? = some s → ∃ b o, a1 = some ⟨b, o, none⟩ ∧ w.cell? ⟨b, o + i, none⟩ = some (.string s)) := e1
  have HE2 : Hid (∀ (i : Nat) (s : ByteArray), l[i]? = some s → ∃ b o, a2 = some ⟨b, o, none⟩ ∧ w.cell? ⟨b, o + i, none⟩ = some (.string s)) := e2
  obtain ⟨len, hlen⟩ : ∃ len, l.length = len := ⟨_, rfl⟩
  have HLN : Hid (l.length = len) := hlen
  rw [hlen] at hm ⊢
  clear hlen e1 e2
  go_enter Try.func21, Try.ntmps21
  go_wp2_with fail
  go_loopw [5] (fun i wr => ∃ k : Nat, k ≤ len ∧ i = .int .i64 k ∧ Below w.heap.size w wr) (fun i _ => len - (intOf i).toNat)
  case atStart => exact ⟨0, Nat.zero_le _, rfl, Below.refl _ _⟩
  case round =>
    obtain ⟨k, hk, rfl, hb⟩ := hrel
    by_cases hkl : k < len
    · obtain ⟨s, hs⟩ : ∃ s, l[k]? = some s := ⟨_, List.getElem?_eq_getElem (by rw [HLN.out]; exact hkl)⟩
      obtain ⟨b, o, rfl, f0⟩ := HE1.out k s hs
      obtain ⟨b2, o2, rfl, g0⟩ := HE2.out k s hs
      have f1 := cell_later hb f0
      have g1 := cell_later hb g0
      have hkl' : (k : Int) < (len : Int) := by omega
      clear f0 g0 hs
      go_wp2_with fail
      go_region
      all_goals
        have hb2 : Below w.heap.size w wr.drew := hb.drew
        clear hb
        go_wp2
        go_roundw
        case rel => exact ⟨k + 1, by omega, by go_num, hb2⟩
        case measure => simp [intOf]; omega
    · go_wp2
      go_ret
      exact ⟨rfl, hb⟩

/-- The marks on n texts from k on. -/
def mks (k : Int) (n : Nat) : List ByteArray := (List.range n).map fun i => mt (k + (i : Nat))

theorem mks_len (k : Int) (n : Nat) : (mks k n).length = n := by simp [mks]
theorem mks_at (k : Int) (n i : Nat) (h : i < n) : (mks k n)[i]? = some (mt (k + (i : Nat))) := by simp [mks, h]

set_option maxHeartbeats 1000000 in
theorem heldStrs_any (v : Value) (n : Nat) (k : Int) (w : World) (h1 : TellS w v (mks k n)) (h0 : 0 ≤ k) (hm : k + (n : Int) ≤ 1099511627776) :
    Calls Try.prog 25 #[v, .int .i64 k] w fun e w' => e = .returned (.int .i64 (k + (n : Int))) ∧ Below w.heap.size w w' := by
  obtain ⟨a1, c1, rfl, e1⟩ := h1
  have HE1 : Hid (∀ (i : Nat) (s : ByteArray), (mks k n)[i]? = some s → ∃ b o, a1 = some ⟨b, o, none⟩ ∧ w.cell? ⟨b, o + i, none⟩ = some (.string s)) := e1
  rw [mks_len]
  clear e1
  go_enter Try.func25, Try.ntmps25
  go_wp2_with fail
  go_loopw [1, 5] (fun x i wr => ∃ j : Nat, j ≤ n ∧ i = .int .i64 j ∧ x = .int .i64 (k + (j : Int)) ∧ Below w.heap.size w wr) (fun _ i _ => n - (intOf i).toNat)
  case atStart => exact ⟨0, Nat.zero_le _, rfl, by show Value.int .i64 k = .int .i64 (k + ((0 : Nat) : Int)); rw [show k + ((0 : Nat) : Int) = k from by omega], Below.refl _ _⟩
  case round =>
    obtain ⟨j, hj, rfl, rfl, hb⟩ := hrel
    by_cases hjl : j < n
    · obtain ⟨b, o, rfl, f0⟩ := HE1.out j _ (mks_at k n j hjl)
      have f1 := cell_later hb f0
      have hjl' : (j : Int) < (n : Int) := by omega
      have HMT : Hid (∀ V : World, Calls Try.prog 52 #[.int .i64 (k + (j : Int))] V fun e w' => e = .returned (.string (mt (k + (j : Int)))) ∧ Below V.heap.size V w') := fun V => markText_any _ V (by omega) (by omega)
      have hn0 := After.some wr
      have p1 := After.cell f1
      clear f0
      go_wp2_with fail
      refine wp_region_after (by kernel_rfl) (by kernel_rfl) ?_
      repeat (go_big_quiet_step ((go_at_call 52; exact calls_after (HMT.out _))))
      refine wpQuiet_nil ?_
      rintro _ ⟨nq, rfl⟩
      have hb2 : Below w.heap.size w nq.now := hb.trans (nq.bel.mono hb.size)
      clear hb f1 p1
      go_wp2
      go_roundw
      case rel => exact ⟨j + 1, by omega, by go_num, by go_num, hb2⟩
      case measure => simp [intOf]; omega
    · obtain rfl : j = n := by omega
      go_wp2
      go_ret
      exact ⟨rfl, hb⟩

end Go.Proofs.Ytpokheklplcamaa
