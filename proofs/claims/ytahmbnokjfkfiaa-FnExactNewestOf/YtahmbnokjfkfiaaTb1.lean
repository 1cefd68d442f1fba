/- The first entry of a name, and the newest number of a module: the program's. -/
import Derived.Test.YtahmbnokjfkfiaaSp12
namespace Go.Proofs.Ytahmbnokjfkfiaa
open Go.RowKit
set_option linter.unusedVariables false

@[go_sem] theorem meth_entry (v : Value) (w : World) : (method 230 45 v "loop.example/g00236/impl.key").run Try.prog w = .ok (68, v) w := by kernel_rfl

theorem key_any (s : ByteArray) (v1 v2 v3 v4 v5 v6 : Value) (w : World) : Calls Try.prog 68 #[.agg #[.string s, v1, v2, v3, v4, v5, v6]] w fun e w' => e = .returned (.string s) ∧ Below w.heap.size w w' := by
  have HB : Below w.heap.size w (w.alloc (.cells #[.string s, v1, v2, v3, v4, v5, v6] 45)) := (Below.refl _ _).alloc (Nat.le_refl _) _
  go_enter Try.func68, Try.ntmps68
  go_wp2
  go_ret
  exact ⟨rfl, HB⟩

/-- What is answered: the first of that name, or the zero one. -/
def FirstQ (d : Nat) (m : List (DEntry d)) (s : ByteArray) (w : World) (n0 : ByteArray) (no : Int) (v2 v3 : Value) (h : Bool) (v5 v6 : Value) (b : Bool) : Prop :=
  (b = true ∧ ∃ (k : Nat) (x : DEntry d), m[k]? = some x ∧ named s x = true ∧ (∀ (j : Nat) (y : DEntry d), j < k → m[j]? = some y → named s y = false) ∧ EntryR d w [.string n0, .int .i64 no, v2, v3, .bool h, v5, v6] x) ∨
  (b = false ∧ (∀ x ∈ m, named s x = false) ∧ n0 = ⟨#[]⟩ ∧ no = 0 ∧ v2 = .slice none 0 0 ∧ v3 = .slice none 0 0 ∧ h = false ∧ v5 = .slice none 0 0 ∧ v6 = .slice none 0 0)

theorem FirstQ.newest {d : Nat} {m : List (DEntry d)} {s : ByteArray} {w : World} {n0 : ByteArray} {no : Int} {v2 v3 : Value} {h : Bool} {v5 v6 : Value} {b : Bool} (hq : FirstQ d m s w n0 no v2 v3 h v5 v6 b) : no = fNewestOf d m s := by
  rcases hq with ⟨_, k, x, h1, h2, h3, h4⟩ | ⟨_, h1, _, h2, _⟩
  · rw [fNewest_hit h1 h2 h3]
    obtain ⟨q2, q3, q5, q6, e, _⟩ := h4
    simp only [List.cons.injEq, Value.int.injEq, true_and] at e
    exact e.2.1
  · rw [fNewest_none h1, h2]

def FirstP (d : Nat) (m : List (DEntry d)) (s : ByteArray) (w : World) (e : Ending) (w' : World) : Prop :=
  ∃ (n0 : ByteArray) (no : Int) (a2 : Option Addr) (l2 c2 : Nat) (a3 : Option Addr) (l3 c3 : Nat) (h : Bool) (a5 : Option Addr) (l5 c5 : Nat) (a6 : Option Addr) (l6 c6 : Nat) (b : Bool), e = .returned (.tuple #[.agg #[.string n0, .int .i64 no, .slice a2 l2 c2, .slice a3 l3 c3, .bool h, .slice a5 l5 c5, .slice a6 l6 c6], .bool b]) ∧ Hid (FirstQ d m s w n0 no (.slice a2 l2 c2) (.slice a3 l3 c3) h (.slice a5 l5 c5) (.slice a6 l6 c6) b) ∧ Below w.heap.size w w'

set_option maxRecDepth 100000 in
set_option maxHeartbeats 4000000 in
theorem first_any (d : Nat) (v : Value) (m : List (DEntry d)) (s : ByteArray) (w : World) (hr : RowOf 7 (EntryR d) w v m) (hl1 : m.length ≤ 1048576) :
    Calls Try.prog 18 #[v, .string s] w (FirstP d m s w) := by
  obtain ⟨a, c, e⟩ := hr.slice
  subst e
  have HE : Hid (RowOf 7 (EntryR d) w (.slice a m.length c) m) := hr
  obtain ⟨len, hl⟩ : ∃ l, m.length = l := ⟨_, rfl⟩
  have HL : Hid (m.length = len) := hl
  rw [hl] at hl1 HE ⊢
  clear hr hl
  obtain ⟨W, hW⟩ : ∃ W, W = w.alloc (.cells #[.string ⟨#[]⟩, .int .i64 0, .slice none 0 0, .slice none 0 0, .bool false, .slice none 0 0, .slice none 0 0] 45) := ⟨_, rfl⟩
  have HA : Hid (Below w.heap.size w W) := by rw [hW]; exact (Below.refl _ _).alloc (Nat.le_refl _) _
  have HB : Hid (W.heap[w.heap.size]? = some (.cells #[.string ⟨#[]⟩, .int .i64 0, .slice none 0 0, .slice none 0 0, .bool false, .slice none 0 0, .slice none 0 0] 45 (0, 0))) := by rw [hW]; exact heap_alloc_new w _
  have HW : Hid (W = _) := hW
  clear hW
  go_enter Try.func18, Try.ntmps18
  go_wp2_with fail

  rw [← HW.out]
  clear HW
  go_loopw [10] (fun i wr => ∃ k : Nat, k ≤ len ∧ i = .int .i64 k ∧ Below W.heap.size W wr ∧ Hid (∀ (j : Nat) (g : DEntry d), j < k → m[j]? = some g → named s g = false)) (fun i _ => len - (intOf i).toNat)
  case atStart => exact ⟨0, Nat.zero_le _, rfl, Below.refl _ _, fun j g hj => absurd hj (Nat.not_lt_zero _)⟩
  case round =>
    obtain ⟨k, hk, rfl, hb, HN⟩ := hrel
    have hbw : Below w.heap.size w wr := HA.out.trans (hb.mono HA.out.size)
    have hrow := (hb.block _ (lt_row HB.out)).trans HB.out
    by_cases hkl : k < len
    · obtain ⟨t, ht⟩ : ∃ t, m[k]? = some t := ⟨_, List.getElem?_eq_getElem (by have := HL.out; omega)⟩
      have HE2 := HE.out
      rw [← HL.out] at HE2
      obtain ⟨b, o, a2, l2, c2, a3, l3, c3, a5, l5, c5, a6, l6, c6, rfl, f0, f1, f2, f3, f4, f5, f6, q1, q2⟩ := Entry_at HE2 k t ht
      have HQ : Hid (EntryR d w [.string t.Name, .int .i64 t.No, .slice a2 l2 c2, .slice a3 l3 c3, .bool t.HasOld, .slice a5 l5 c5, .slice a6 l6 c6] t) := ⟨_, _, _, _, rfl, q1, q2⟩
      have hkl' : (k : Int) < (len : Int) := by omega
      have HT : Hid (m[k]? = some t) := ht
      have f0 := cell_later hbw f0
      have f1 := cell_later hbw f1
      have f2 := cell_later hbw f2
      have f3 := cell_later hbw f3
      have f4 := cell_later hbw f4
      have f5 := cell_later hbw f5
      have f6 := cell_later hbw f6
      clear ht HE2 q1 q2
      have HK : Hid (∀ V : World, _) := fun V => key_any t.Name (.int .i64 t.No) (.slice a2 l2 c2) (.slice a3 l3 c3) (.bool t.HasOld) (.slice a5 l5 c5) (.slice a6 l6 c6) V
      by_cases hs : t.Name = s
      · have hs' : (t.Name.toList == s.toList) = true := by rw [hs]; simp
        have hno := HN.out
        have HF : Hid (FirstQ d m s w t.Name t.No (.slice a2 l2 c2) (.slice a3 l3 c3) t.HasOld (.slice a5 l5 c5) (.slice a6 l6 c6) true) := .inl ⟨rfl, k, t, HT.out, decide_eq_true hs, hno, HQ.out⟩
        clear HN hs hno
        go_wp2_with fail
        refine (HK.out _).mono ?_
        rintro e w1 ⟨rfl, hb1⟩
        have f0 := cell_later hb1 f0
        have f1 := cell_later hb1 f1
        have f2 := cell_later hb1 f2
        have f3 := cell_later hb1 f3
        have f4 := cell_later hb1 f4
        have f5 := cell_later hb1 f5
        have f6 := cell_later hb1 f6
        have hrow1 := (hb1.block _ (lt_row hrow)).trans hrow
        have b0 : w1.cell? ⟨w.heap.size, 0, none⟩ = some (.string ⟨#[]⟩) := by rw [cell_of_row w1 _ 0 _ _ _ hrow1]; rfl
        have b1 : w1.cell? ⟨w.heap.size, 1, none⟩ = some (.int .i64 0) := by rw [cell_of_row w1 _ 1 _ _ _ hrow1]; rfl
        have b2 : w1.cell? ⟨w.heap.size, 2, none⟩ = some (.slice none 0 0) := by rw [cell_of_row w1 _ 2 _ _ _ hrow1]; rfl
        have b3 : w1.cell? ⟨w.heap.size, 3, none⟩ = some (.slice none 0 0) := by rw [cell_of_row w1 _ 3 _ _ _ hrow1]; rfl
        have b4 : w1.cell? ⟨w.heap.size, 4, none⟩ = some (.bool false) := by rw [cell_of_row w1 _ 4 _ _ _ hrow1]; rfl
        have b5 : w1.cell? ⟨w.heap.size, 5, none⟩ = some (.slice none 0 0) := by rw [cell_of_row w1 _ 5 _ _ _ hrow1]; rfl
        have b6 : w1.cell? ⟨w.heap.size, 6, none⟩ = some (.slice none 0 0) := by rw [cell_of_row w1 _ 6 _ _ _ hrow1]; rfl
        have bf : ∀ i, w1.frozen? ⟨w.heap.size, i, none⟩ = false := fun i => frozen_of_row w1 _ _ _ _ hrow1
        have hbw1 : Hid (Below w.heap.size w w1) := hbw.trans (hb1.mono hbw.size)
        clear hb hb1 hbw hrow
      
        go_wp2_with fail
      
        refine bodyPost_ret (v := .tuple #[.agg #[.string t.Name, .int .i64 t.No, .slice a2 l2 c2, .slice a3 l3 c3, .bool t.HasOld, .slice a5 l5 c5, .slice a6 l6 c6], .bool true]) (by first | (simp [results, Try.results18, go_sem, b0, b1, b2, b3, b4, b5, b6]; done) | (simp [results, Try.results18, go_sem, b0, b1, b2, b3, b4, b5, b6]; rfl)) rfl ?_
        refine (fun hZ => ⟨_, _, _, _, _, _, _, _, _, _, _, _, _, _, _, _, rfl, HF, hZ⟩ : Below w.heap.size w _ → FirstP d m s w _ _) ?_
        repeat (first | with_reducible exact hbw1.out | with_reducible refine Below.drew ?_ | with_reducible refine Below.alloc ?_ (by first | exact hbw1.out.size | (simp; done)) _ | ((with_reducible refine Below.setCell ?_ ?_ _); rotate_left; exact Nat.le_refl _))
      · have hs' : (t.Name.toList == s.toList) = false := by rw [str_beq]; exact decide_eq_false hs
        have HF : Hid (∀ (j : Nat) (g : DEntry d), j < k + 1 → m[j]? = some g → named s g = false) := later_step HT.out (decide_eq_false hs) HN.out
        clear HN hs
        go_wp2_with fail
        refine (HK.out _).mono ?_
        rintro e w1 ⟨rfl, hb1⟩
        have hb2 : Below W.heap.size W w1 := hb.trans (hb1.mono hb.size)
        clear hb hb1 hbw hrow
        go_wp2_with fail
        go_roundw
        case rel => exact ⟨k + 1, by omega, by go_num, hb2, HF⟩
        case measure => simp [intOf]; omega
    · obtain rfl : k = len := by omega
      have hkl' : decide ((k : Int) < (k : Int)) = false := by simp
      have HF : Hid (FirstQ d m s w ⟨#[]⟩ 0 (.slice none 0 0) (.slice none 0 0) false (.slice none 0 0) (.slice none 0 0) false) := .inr ⟨rfl, fun x hx => by
        obtain ⟨j, hj, rfl⟩ := List.mem_iff_getElem.1 hx
        exact HN.out j _ (by have := HL.out; omega) (List.getElem?_eq_getElem hj), rfl, rfl, rfl, rfl, rfl, rfl, rfl⟩
      have hwr : w.heap.size < wr.heap.size := lt_row hrow
      have h0 := heap_setCell_same wr w.heap.size 0 _ 45 (.string ⟨#[]⟩) hrow
      have h1 := heap_setCell_same _ w.heap.size 1 _ 45 (.int .i64 0) h0
      have h2 := heap_setCell_same _ w.heap.size 2 _ 45 (.slice none 0 0) h1
      have h3 := heap_setCell_same _ w.heap.size 3 _ 45 (.slice none 0 0) h2
      have h4 := heap_setCell_same _ w.heap.size 4 _ 45 (.bool false) h3
      have h5 := heap_setCell_same _ w.heap.size 5 _ 45 (.slice none 0 0) h4
      have h6 := heap_setCell_same _ w.heap.size 6 _ 45 (.slice none 0 0) h5
      obtain ⟨Y, hY⟩ : ∃ Y, Y = (((((((wr.setCell ⟨w.heap.size, 0, none⟩ (.string ⟨#[]⟩)).setCell ⟨w.heap.size, 1, none⟩ (.int .i64 0)).setCell ⟨w.heap.size, 2, none⟩ (.slice none 0 0)).setCell ⟨w.heap.size, 3, none⟩ (.slice none 0 0)).setCell ⟨w.heap.size, 4, none⟩ (.bool false)).setCell ⟨w.heap.size, 5, none⟩ (.slice none 0 0)).setCell ⟨w.heap.size, 6, none⟩ (.slice none 0 0)) := ⟨_, rfl⟩
      rw [← hY] at h6
      have q0 := Below.setCell hbw (p := ⟨w.heap.size, 0, none⟩) (Nat.le_refl _) (.string ⟨#[]⟩)
      have q1 := Below.setCell q0 (p := ⟨w.heap.size, 1, none⟩) (Nat.le_refl _) (.int .i64 0)
      have q2 := Below.setCell q1 (p := ⟨w.heap.size, 2, none⟩) (Nat.le_refl _) (.slice none 0 0)
      have q3 := Below.setCell q2 (p := ⟨w.heap.size, 3, none⟩) (Nat.le_refl _) (.slice none 0 0)
      have q4 := Below.setCell q3 (p := ⟨w.heap.size, 4, none⟩) (Nat.le_refl _) (.bool false)
      have q5 := Below.setCell q4 (p := ⟨w.heap.size, 5, none⟩) (Nat.le_refl _) (.slice none 0 0)
      have q6 := Below.setCell q5 (p := ⟨w.heap.size, 6, none⟩) (Nat.le_refl _) (.slice none 0 0)
      rw [← hY] at q6
      obtain ⟨X, hX⟩ : ∃ X, X = Y.alloc (.cells #[.string ⟨#[]⟩, .int .i64 0, .slice none 0 0, .slice none 0 0, .bool false, .slice none 0 0, .slice none 0 0] 45) := ⟨_, rfl⟩
      have hr7 := (Below.heap_alloc Y (.cells #[.string ⟨#[]⟩, .int .i64 0, .slice none 0 0, .slice none 0 0, .bool false, .slice none 0 0, .slice none 0 0] 45) _ (lt_row h6)).trans h6
      rw [← hX] at hr7
      have HBX : Hid (Below w.heap.size w X) := by rw [hX]; exact q6.alloc q6.size _
      have x0 : X.cell? ⟨w.heap.size, 0, none⟩ = some (.string ⟨#[]⟩) := by rw [cell_of_row X _ 0 _ _ _ hr7]; simp
      have x1 : X.cell? ⟨w.heap.size, 1, none⟩ = some (.int .i64 0) := by rw [cell_of_row X _ 1 _ _ _ hr7]; simp
      have x2 : X.cell? ⟨w.heap.size, 2, none⟩ = some (.slice none 0 0) := by rw [cell_of_row X _ 2 _ _ _ hr7]; simp
      have x3 : X.cell? ⟨w.heap.size, 3, none⟩ = some (.slice none 0 0) := by rw [cell_of_row X _ 3 _ _ _ hr7]; simp
      have x4 : X.cell? ⟨w.heap.size, 4, none⟩ = some (.bool false) := by rw [cell_of_row X _ 4 _ _ _ hr7]; simp
      have x5 : X.cell? ⟨w.heap.size, 5, none⟩ = some (.slice none 0 0) := by rw [cell_of_row X _ 5 _ _ _ hr7]; simp
      have x6 : X.cell? ⟨w.heap.size, 6, none⟩ = some (.slice none 0 0) := by rw [cell_of_row X _ 6 _ _ _ hr7]; simp
      rw [hY] at hX
      have HX : Hid (X = _) := hX
      have bf : ∀ i, wr.frozen? ⟨w.heap.size, i, none⟩ = false := fun i => frozen_of_row wr _ _ _ _ hrow
      have b0 : wr.cell? ⟨w.heap.size, 0, none⟩ = some (.string ⟨#[]⟩) := by rw [cell_of_row wr _ 0 _ _ _ hrow]; rfl
      have b1 : wr.cell? ⟨w.heap.size, 1, none⟩ = some (.int .i64 0) := by rw [cell_of_row wr _ 1 _ _ _ hrow]; rfl
      have b2 : wr.cell? ⟨w.heap.size, 2, none⟩ = some (.slice none 0 0) := by rw [cell_of_row wr _ 2 _ _ _ hrow]; rfl
      have b3 : wr.cell? ⟨w.heap.size, 3, none⟩ = some (.slice none 0 0) := by rw [cell_of_row wr _ 3 _ _ _ hrow]; rfl
      have b4 : wr.cell? ⟨w.heap.size, 4, none⟩ = some (.bool false) := by rw [cell_of_row wr _ 4 _ _ _ hrow]; rfl
      have b5 : wr.cell? ⟨w.heap.size, 5, none⟩ = some (.slice none 0 0) := by rw [cell_of_row wr _ 5 _ _ _ hrow]; rfl
      have b6 : wr.cell? ⟨w.heap.size, 6, none⟩ = some (.slice none 0 0) := by rw [cell_of_row wr _ 6 _ _ _ hrow]; rfl
      clear HN hbw hb hrow hX hY hr7 h0 h1 h2 h3 h4 h5 h6 q0 q1 q2 q3 q4 q5 q6
      go_wp2_with fail
      rw [← HX.out]
      refine bodyPost_ret (v := .tuple #[.agg #[.string ⟨#[]⟩, .int .i64 0, .slice none 0 0, .slice none 0 0, .bool false, .slice none 0 0, .slice none 0 0], .bool false]) (by first | (simp [results, Try.results18, go_sem, x0, x1, x2, x3, x4, x5, x6]; done) | (simp [results, Try.results18, go_sem, x0, x1, x2, x3, x4, x5, x6]; rfl)) rfl ?_
      exact (fun hZ => ⟨_, _, _, _, _, _, _, _, _, _, _, _, _, _, _, _, rfl, HF, hZ⟩ : Below w.heap.size w _ → FirstP d m s w _ _) HBX.out

set_option maxRecDepth 100000 in
set_option maxHeartbeats 2000000 in
theorem implNewestOf_any (d : Nat) (v : Value) (m : List (DEntry d)) (s : ByteArray) (w : World) (hr : RowOf 7 (EntryR d) w v m) (hw : WfRow (WfEntry d) m) (hz : szRow (szEntryD d) m ≤ 1048576) (hs : s.size ≤ 1048576) :
    Calls Try.prog 8 #[v, .string s] w fun e w' => e = .returned (.int .i64 (fNewestOf d m s)) ∧ Below w.heap.size w w' := by
  have hl1 := szRow_len (szEntryD d) m
  have hC := first_any d v m s w hr (by omega)
  obtain ⟨a, c, e⟩ := hr.slice
  subst e
  clear hr hw hz hs hl1
  go_enter Try.func8, Try.ntmps8
  go_wp2_with fail
  refine hC.mono ?_
  clear hC
  rintro e w1 ⟨n0, no, a2, l2, c2, a3, l3, c3, h, a5, l5, c5, a6, l6, c6, b, rfl, HQ, hb1⟩
  have HF : Hid (no = fNewestOf d m s) := HQ.out.newest
  have HB1 : Hid (Below w.heap.size w w1) := hb1
  have hz1 := hb1.size
  clear hb1 HQ
  go_wp2_with fail
  go_ret
  refine ⟨tret1 HF.out, ?_⟩
  repeat (first | with_reducible exact HB1.out | with_reducible refine Below.drew ?_ | (with_reducible refine Below.alloc ?_ hz1 _) | ((with_reducible refine Below.setCell ?_ ?_ _); rotate_left; exact hz1))

end Go.Proofs.Ytahmbnokjfkfiaa
