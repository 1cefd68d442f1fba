/- The law's own looks and marks on tokens. -/
import Derived.Test.YtickaplokjdijaaDoorLx9
import Derived.Test.YtickaplokjdijaaDoorMarkT
import Derived.Deep.RegionWith
import Derived.Deep.DeepCutAuto
import Derived.Deep.CutRange
namespace Go.Proofs.YtickaplokjdijaaDoor
open Go.RowKit
set_option linter.unusedVariables false

/-- What is read of a text is one. -/
theorem OneAt.same {s : ByteArray} {i e e' : Nat} {t t' : Tok} (h : OneAt s i t e) (h' : OneAt s i t' e') : t = t' ∧ e = e' := by
  obtain ⟨hi, h⟩ := h
  obtain ⟨_, h'⟩ := h'
  have hx := excl (s[i].toNat : Int)
  rcases h with ⟨a1, a2, a3, a4, a5⟩ | ⟨a1, a2, a3, a5⟩ | ⟨a1, a2, a3, a5⟩ | ⟨a1, a2, a3, a4, a5, a6⟩
  · rcases h' with ⟨b1, b2, b3, b4, b5⟩ | ⟨b1, b2, b3, b5⟩ | ⟨b1, b2, b3, b5⟩ | ⟨b1, b2, b3, b4, b5, b6⟩
    · obtain rfl := a2.unique b2
      exact ⟨a5.trans b5.symm, rfl⟩
    · rw [(hx.1 a1).1] at b1; cases b1
    · rw [(hx.1 a1).2] at b1; cases b1
    · rw [a1] at b1; cases b1
  · rcases h' with ⟨b1, b2, b3, b4, b5⟩ | ⟨b1, b2, b3, b5⟩ | ⟨b1, b2, b3, b5⟩ | ⟨b1, b2, b3, b4, b5, b6⟩
    · rw [(hx.2.1 a1).1] at b1; cases b1
    · obtain rfl := a2.unique b2
      exact ⟨a5.trans b5.symm, rfl⟩
    · rw [(hx.2.1 a1).2] at b1; cases b1
    · rw [a1] at b2; cases b2
  · rcases h' with ⟨b1, b2, b3, b4, b5⟩ | ⟨b1, b2, b3, b5⟩ | ⟨b1, b2, b3, b5⟩ | ⟨b1, b2, b3, b4, b5, b6⟩
    · rw [(hx.2.2 a1).1] at b1; cases b1
    · rw [(hx.2.2 a1).2] at b1; cases b1
    · obtain rfl := a2.unique b2
      exact ⟨a5.trans b5.symm, rfl⟩
    · rw [a1] at b3; cases b3
  · rcases h' with ⟨b1, b2, b3, b4, b5⟩ | ⟨b1, b2, b3, b5⟩ | ⟨b1, b2, b3, b5⟩ | ⟨b1, b2, b3, b4, b5, b6⟩
    · rw [a1] at b1; cases b1
    · rw [a2] at b1; cases b1
    · rw [a3] at b1; cases b1
    · obtain rfl : e = e' := by omega
      exact ⟨a6.trans b6.symm, rfl⟩

theorem lexF_same {s : ByteArray} : ∀ (f f' i : Nat) (acc r r' : List Tok) (q q' : Int), LexF s f i acc r q → LexF s f' i acc r' q' → r = r' ∧ q = q'
  | 0, _, _, _, _, _, _, _, h, _ => False.elim h
  | f + 1, 0, _, _, _, _, _, _, _, h' => False.elim h'
  | f + 1, f' + 1, i, acc, r, r', q, q', h, h' => by
    have ih := @lexF_same s f f'
    rcases h with ⟨h1, rfl, rfl⟩ | ⟨hi, hb, hn⟩ | ⟨hi, j, h37, hj, hn⟩ | ⟨hi, hb, h37, hs, rfl, rfl⟩ | ⟨hi, t, e, hb, h37, h1, h2, hn⟩
    · rcases h' with ⟨_, rfl, rfl⟩ | ⟨hi', _⟩ | ⟨hi', _⟩ | ⟨hi', _⟩ | ⟨hi', _⟩
      · exact ⟨rfl, rfl⟩
      all_goals exact absurd hi' h1
    · rcases h' with ⟨g1, _⟩ | ⟨_, _, gn⟩ | ⟨_, _, g37, _⟩ | ⟨_, gb, _⟩ | ⟨_, _, _, gb, _⟩
      · exact absurd hi g1
      · exact ih _ _ _ _ _ _ hn gn
      · exact absurd hb (by rw [g37]; unfold Bl; omega)
      · exact absurd hb gb
      · exact absurd hb gb
    · rcases h' with ⟨g1, _⟩ | ⟨_, gb, _⟩ | ⟨_, j', _, gj, gn⟩ | ⟨_, _, g37, _⟩ | ⟨_, _, _, _, g37, _⟩
      · exact absurd hi g1
      · exact absurd gb (by rw [h37]; unfold Bl; omega)
      · obtain rfl := hj.unique gj
        exact ih _ _ _ _ _ _ hn gn
      · exact absurd h37 g37
      · exact absurd h37 g37
    · rcases h' with ⟨g1, _⟩ | ⟨_, gb, _⟩ | ⟨_, _, g37, _⟩ | ⟨_, _, _, _, rfl, rfl⟩ | ⟨_, t, e, _, _, g1, g2, _⟩
      · exact absurd hi g1
      · exact absurd gb hb
      · exact absurd g37 h37
      · exact ⟨rfl, rfl⟩
      · rcases hs with hs | hs
        · exact absurd ⟨t, e, g1⟩ hs
        · exact absurd hs g2
    · rcases h' with ⟨g1, _⟩ | ⟨_, gb, _⟩ | ⟨_, _, g37, _⟩ | ⟨_, _, _, hs, _⟩ | ⟨_, t', e', _, _, g1, _, gn⟩
      · exact absurd hi g1
      · exact absurd gb hb
      · exact absurd g37 h37
      · rcases hs with hs | hs
        · exact absurd ⟨t, e, h1⟩ hs
        · exact absurd hs h2
      · obtain ⟨rfl, rfl⟩ := h1.same g1
        exact ih _ _ _ _ _ _ hn gn

theorem LexR.same {s : ByteArray} {i : Nat} {acc r r' : List Tok} {q q' : Int} (h : LexR s i acc r q) (h' : LexR s i acc r' q') : r = r' ∧ q = q' := by
  obtain ⟨f, h⟩ := h
  obtain ⟨f', h'⟩ := h'
  exact lexF_same f f' i acc r r' q q' h h'

/-- A token's three cells. -/
def Three (w : World) (b o : Nat) (t : Tok) : Prop := w.cell? ⟨b, o, none⟩ = some (.int .i64 t.1) ∧ w.cell? ⟨b, o + 1, none⟩ = some (.int .i64 t.2.1) ∧ w.cell? ⟨b, o + 2, none⟩ = some (.string t.2.2)

/-- A row that reads as these tokens. -/
def RdTk (w : World) (a : Option Addr) (ts : List Tok) : Prop := ∀ (i : Nat) (t : Tok), ts[i]? = some t → ∃ b, a = some ⟨b, 0, none⟩ ∧ Three w b (i * 3) t

theorem RdTk.later {w w' : World} {a : Option Addr} {ts : List Tok} (h : RdTk w a ts) (hb : Below w.heap.size w w') : RdTk w' a ts := fun i t ht => by
  obtain ⟨b, e, h1, h2, h3⟩ := h i t ht
  exact ⟨b, e, cell_later hb h1, cell_later hb h2, cell_later hb h3⟩

theorem tokCells_at : ∀ (ts : List Tok) (i : Nat) (t : Tok), ts[i]? = some t → (tokCells ts)[i * 3]? = some (.int .i64 t.1) ∧ (tokCells ts)[i * 3 + 1]? = some (.int .i64 t.2.1) ∧ (tokCells ts)[i * 3 + 2]? = some (.string t.2.2)
  | [], i, t, h => by simp at h
  | u :: r, 0, t, h => by
    obtain rfl : u = t := by simpa using h
    exact ⟨rfl, rfl, rfl⟩
  | u :: r, i + 1, t, h => by
    have ih := tokCells_at r i t (by simpa using h)
    rw [show (i + 1) * 3 = i * 3 + 1 + 1 + 1 from by omega]
    exact ⟨ih.1, ih.2.1, ih.2.2⟩

theorem tokCells_len : ∀ ts : List Tok, (tokCells ts).length = ts.length * 3
  | [] => rfl
  | u :: r => by have := tokCells_len r; show (tokCells r).length + 1 + 1 + 1 = _; rw [List.length_cons]; omega

theorem rdTk_own {w : World} {B c : Nat} {a : Option Addr} {ts : List Tok} (h : w.ownsRow B 31 3 (.slice a ts.length c) ts.length (tokCells ts)) : RdTk w a ts := fun i t ht => by
  have hi : i < ts.length := (List.getElem?_eq_some_iff.1 ht).1
  obtain ⟨e1, e2, e3⟩ := tokCells_at ts i t ht
  have h0 := h
  rcases h0.2 with ⟨h1, h2⟩ | ⟨g, c', cur, f1, _⟩
  · omega
  · simp only [Value.slice.injEq, true_and] at f1
    obtain ⟨rfl, rfl⟩ := f1
    refine ⟨g, rfl, ?_, ?_, ?_⟩
    · rw [h.cellAt (i * 3) (by omega)]; exact e1
    · rw [h.cellAt (i * 3 + 1) (by omega)]; exact e2
    · rw [h.cellAt (i * 3 + 2) (by omega)]; exact e3

set_option maxHeartbeats 1000000 in
theorem eqToken_any (k n : Int) (s : ByteArray) (w : World) :
    Calls Tryd.prog 54 #[.agg #[.int .i64 k, .int .i64 n, .string s], .agg #[.int .i64 k, .int .i64 n, .string s]] w fun e w' => e = .returned (.bool true) ∧ Below w.heap.size w w' := by
  have hA : Below w.heap.size w ((w.alloc (.cells #[.int .i64 k, .int .i64 n, .string s] 31)).alloc (.cells #[.int .i64 k, .int .i64 n, .string s] 31)) := ((Below.refl _ _).alloc (Nat.le_refl _) _).alloc (by simp) _
  go_enter Tryd.func54, Tryd.ntmps54
  go_wp2
  go_ret
  exact ⟨rfl, hA⟩

set_option maxHeartbeats 1000000 in
theorem eqTokenS_any (a1 a2 : Option Addr) (c1 c2 : Nat) (ts : List Tok) (w : World) (h1 : RdTk w a1 ts) (h2 : RdTk w a2 ts) (hm : ts.length ≤ 2000) :
    Calls Tryd.prog 28 #[.slice a1 ts.length c1, .slice a2 ts.length c2] w fun e w' => e = .returned (.bool true) ∧ Below w.heap.size w w' := by
  have HE1 : Hid (RdTk w a1 ts) := h1
  have HE2 : Hid (RdTk w a2 ts) := h2
  obtain ⟨len, hlen⟩ : ∃ len, ts.length = len := ⟨_, rfl⟩
  have HLN : Hid (ts.length = len) := hlen
  rw [hlen] at hm ⊢
  clear hlen h1 h2
  go_enter Tryd.func28, Tryd.ntmps28
  go_wp2_with fail
  go_loopw [5] (fun i wr => ∃ k : Nat, k ≤ len ∧ i = .int .i64 k ∧ Below w.heap.size w wr) (fun i _ => len - (intOf i).toNat)
  case atStart => exact ⟨0, Nat.zero_le _, rfl, Below.refl _ _⟩
  case round =>
    obtain ⟨k, hk, rfl, hb⟩ := hrel
    by_cases hkl : k < len
    · obtain ⟨t, ht⟩ : ∃ t, ts[k]? = some t := ⟨_, List.getElem?_eq_getElem (by rw [HLN.out]; exact hkl)⟩
      obtain ⟨b1, rfl, F1⟩ := HE1.out k t ht
      obtain ⟨b2, rfl, F2⟩ := HE2.out k t ht
      obtain ⟨f0, f1, f2⟩ := F1
      obtain ⟨g0, g1, g2⟩ := F2
      have f0 := cell_later hb f0
      have f1 := cell_later hb f1
      have f2 := cell_later hb f2
      have g0 := cell_later hb g0
      have g1 := cell_later hb g1
      have g2 := cell_later hb g2
      have hkl' : (k : Int) < (len : Int) := by omega
      have HC : Hid (∀ W : World, Calls Tryd.prog 54 #[.agg #[.int .i64 t.1, .int .i64 t.2.1, .string t.2.2], .agg #[.int .i64 t.1, .int .i64 t.2.1, .string t.2.2]] W fun e w' => e = .returned (.bool true) ∧ Below W.heap.size W w') :=
        fun W => eqToken_any t.1 t.2.1 t.2.2 W
      go_wp2_with fail
      go_region_with (go_at_call 54; refine (HC.out _).mono ?_; rintro e W ⟨rfl, hB⟩)
      all_goals
        have hb2 : Below w.heap.size w W := hb.drew.trans (hB.mono hb.drew.size)
        clear hb hB
        go_wp2
        go_roundw
        case rel => exact ⟨k + 1, by omega, by go_num, hb2⟩
        case measure => simp [intOf]; omega
    · go_wp2
      go_ret
      exact ⟨rfl, hb⟩

/-- The marks on tokens from k on. -/
def mkTs (k : Int) : List Tok → List Tok
  | [] => []
  | _ :: r => tk3 k (k + 1) (mt (k + 2)) :: mkTs (k + 3) r

theorem mkTs_len : ∀ (ts : List Tok) (k : Int), (mkTs k ts).length = ts.length
  | [], _ => rfl
  | _ :: r, k => by show (mkTs (k + 3) r).length + 1 = r.length + 1; rw [mkTs_len r]

theorem mkTs_at : ∀ (ts : List Tok) (k : Int) (j : Nat), j < ts.length → (mkTs k ts)[j]? = some (tk3 (k + 3 * j) (k + 3 * j + 1) (mt (k + 3 * j + 2)))
  | [], _, j, h => by simp at h
  | _ :: r, k, 0, _ => by show some _ = some _; simp
  | _ :: r, k, j + 1, h => by
    have ih := mkTs_at r (k + 3) j (by simpa using h)
    show (mkTs (k + 3) r)[j]? = _
    rw [ih, show k + 3 + 3 * (j : Int) = k + 3 * ((j + 1 : Nat) : Int) from by omega]

/-- The first j tokens marked, the others as they were. -/
def halfT (k : Int) (ts : List Tok) (j : Nat) : List Tok := (mkTs k ts).take j ++ ts.drop j

theorem tok_set (k n : Int) (S : ByteArray) : ∀ (A : List Tok) (t : Tok) (B : List Tok), (((tokCells (A ++ t :: B)).set (A.length * 3) (.int .i64 k)).set (A.length * 3 + 1) (.int .i64 n)).set (A.length * 3 + 2) (.string S) = tokCells (A ++ tk3 k n S :: B)
  | [], t, B => rfl
  | u :: A, t, B => by
    have ih := tok_set k n S A t B
    rw [List.length_cons, show (A.length + 1) * 3 = A.length * 3 + 1 + 1 + 1 from by omega]
    show _ :: _ :: _ :: (((tokCells (A ++ t :: B)).set (A.length * 3) (.int .i64 k)).set (A.length * 3 + 1) (.int .i64 n)).set (A.length * 3 + 2) (.string S) = _ :: _ :: _ :: tokCells (A ++ tk3 k n S :: B)
    rw [ih]

theorem half_step3 (k : Int) (ts : List Tok) (j : Nat) (h : j < ts.length) :
    (((tokCells (halfT k ts j)).set (j * 3) (.int .i64 (k + 3 * j))).set (j * 3 + 1) (.int .i64 (k + 3 * j + 1))).set (j * 3 + 2) (.string (mt (k + 3 * j + 2))) = tokCells (halfT k ts (j + 1)) := by
  have hl : ((mkTs k ts).take j).length = j := by rw [List.length_take, mkTs_len]; omega
  have hd : ts.drop j = ts[j] :: ts.drop (j + 1) := List.drop_eq_getElem_cons h
  have hm := mkTs_at ts k j h
  have hs := tok_set (k + 3 * j) (k + 3 * j + 1) (mt (k + 3 * j + 2)) ((mkTs k ts).take j) ts[j] (ts.drop (j + 1))
  rw [hl] at hs
  unfold halfT
  rw [hd, hs, List.take_add_one, hm]
  simp

theorem half_len3 (k : Int) (ts : List Tok) (j : Nat) (h : j ≤ ts.length) : (halfT k ts j).length = ts.length := by
  unfold halfT
  rw [List.length_append, List.length_take, List.length_drop, mkTs_len]
  omega

end Go.Proofs.YtickaplokjdijaaDoor
