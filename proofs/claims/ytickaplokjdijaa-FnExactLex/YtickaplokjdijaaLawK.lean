/- The law's own looks and marks on tokens. -/
import Derived.Test.YtickaplokjdijaaLx9
import Derived.Test.YtickaplokjdijaaMarkT
import Derived.Deep.RegionWith
import Derived.Deep.DeepCutAuto
import Derived.Deep.CutRange
namespace Go.Proofs.Ytickaplokjdijaa
open Go.RowKit
set_option linter.unusedVariables false

/-- What is read of a text is one. -/
theorem OneAt.same {s : ByteArray} {i e e' : Nat} {t t' : Tok} (h : OneAt s i t e) (h' : OneAt s i t' e') : t = t' ∧ e = e' := by
  obtain ⟨hi, h⟩ := h
  obtain ⟨_, h'⟩ := h'
  have hx := excl (s[i].toNat : Int)
  rcases h with ⟨a1, a2, a3, a4, a5⟩ | ⟨a1, a2, a3, a5⟩ | ⟨a1, a2, a3, a5⟩ | ⟨a1, a2, a3, a4, a5, a6⟩
  · rcases h' with ⟨b1, b2, b3, b4, b5⟩ | ⟨b1, b2, b3, b5⟩ | ⟨b1, b2, b3, b5⟩ | ⟨b1, b2, b3, b4, b5, b6⟩
    · obtain rfl := a2.unique b2
      exact ⟨a5.trans b5.symm, rfl⟩
    · rw [(hx.1 a1).1] at b1; cases b1
    · rw [(hx.1 a1).2] at b1; cases b1
    · rw [a1] at b1; cases b1
  · rcases h' with ⟨b1, b2, b3, b4, b5⟩ | ⟨b1, b2, b3, b5⟩ | ⟨b1, b2, b3, b5⟩ | ⟨b1, b2, b3, b4, b5, b6⟩
    · rw [(hx.2.1 a1).1] at b1; cases b1
    · obtain rfl := a2.unique b2
      exact ⟨a5.trans b5.symm, rfl⟩
    · rw [(hx.2.1 a1).2] at b1; cases b1
    · rw [a1] at b2; cases b2
  · rcases h' with ⟨b1, b2, b3, b4, b5⟩ | ⟨b1, b2, b3, b5⟩ | ⟨b1, b2, b3, b5⟩ | ⟨b1, b2, b3, b4, b5, b6⟩
    · rw [(hx.2.2 a1).1] at b1; cases b1
    · rw [(hx.2.2 a1).2] at b1; cases b1
    · obtain rfl := a2.unique b2
      exact ⟨a5.trans b5.symm, rfl⟩
    · rw [a1] at b3; cases b3
  · rcases h' with ⟨b1, b2, b3, b4, b5⟩ | ⟨b1, b2, b3, b5⟩ | ⟨b1, b2, b3, b5⟩ | ⟨b1, b2, b3, b4, b5, b6⟩
    · rw [a1] at b1; cases b1
    · rw [a2] at b1; cases b1
    · rw [a3] at b1; cases b1
    · obtain rfl : e = e' := by omega
      exact ⟨a6.trans b6.symm, rfl⟩

theorem lexF_same {s : ByteArray} : ∀ (f f' i : Nat) (acc r r' : List Tok) (q q' : Int), LexF s f i acc r q → LexF s f' i acc r' q' → r = r' ∧ q = q'
  | 0, _, _, _, _, _, _, _, h, _ => False.elim h
  | f + 1, 0, _, _, _, _, _, _, _, h' => False.elim h'
  | f + 1, f' + 1, i, acc, r, r', q, q', h, h' => by
    have ih := @lexF_same s f f'
    rcases h with ⟨h1, rfl, rfl⟩ | ⟨hi, hb, hn⟩ | ⟨hi, j, h37, hj, hn⟩ | ⟨hi, hb, h37, hs, rfl, rfl⟩ | ⟨hi, t, e, hb, h37, h1, h2, hn⟩
    · rcases h' with ⟨_, rfl, rfl⟩ | ⟨hi', _⟩ | ⟨hi', _⟩ | ⟨hi', _⟩ | ⟨hi', _⟩
      · exact ⟨rfl, rfl⟩
      all_goals exact absurd hi' h1
    · rcases h' with ⟨g1, _⟩ | ⟨_, _, gn⟩ | ⟨_, _, g37, _⟩ | ⟨_, gb, _⟩ | ⟨_, _, _, gb, _⟩
      · exact absurd hi g1
      · exact ih _ _ _ _ _ _ hn gn
      · exact absurd hb (by rw [g37]; unfold Bl; omega)
      · exact absurd hb gb
      · exact absurd hb gb
    · rcases h' with ⟨g1, _⟩ | ⟨_, gb, _⟩ | ⟨_, j', _, gj, gn⟩ | ⟨_, _, g37, _⟩ | ⟨_, _, _, _, g37, _⟩
      · exact absurd hi g1
      · exact absurd gb (by rw [h37]; unfold Bl; omega)
      · obtain rfl := hj.unique gj
        exact ih _ _ _ _ _ _ hn gn
      · exact absurd h37 g37
      · exact absurd h37 g37
    · rcases h' with ⟨g1, _⟩ | ⟨_, gb, _⟩ | ⟨_, _, g37, _⟩ | ⟨_, _, _, _, rfl, rfl⟩ | ⟨_, t, e, _, _, g1, g2, _⟩
      · exact absurd hi g1
      · exact absurd gb hb
      · exact absurd g37 h37
      · exact ⟨rfl, rfl⟩
      · rcases hs with hs | hs
        · exact absurd ⟨t, e, g1⟩ hs
        · exact absurd hs g2
    · rcases h' with ⟨g1, _⟩ | ⟨_, gb, _⟩ | ⟨_, _, g37, _⟩ | ⟨_, _, _, hs, _⟩ | ⟨_, t', e', _, _, g1, _, gn⟩
      · exact absurd hi g1
      · exact absurd gb hb
      · exact absurd g37 h37
      · rcases hs with hs | hs
        · exact absurd ⟨t, e, h1⟩ hs
        · exact absurd hs h2
      · obtain ⟨rfl, rfl⟩ := h1.same g1
        exact ih _ _ _ _ _ _ hn gn

theorem LexR.same {s : ByteArray} {i : Nat} {acc r r' : List Tok} {q q' : Int} (h : LexR s i acc r q) (h' : LexR s i acc r' q') : r = r' ∧ q = q' := by
  obtain ⟨f, h⟩ := h
  obtain ⟨f', h'⟩ := h'
  exact lexF_same f f' i acc r r' q q' h h'

/-- A token's three cells. -/
def Three (w : World) (b o : Nat) (t : Tok) : Prop := w.cell? ⟨b, o, none⟩ = some (.int .i64 t.1) ∧ w.cell? ⟨b, o + 1, none⟩ = some (.int .i64 t.2.1) ∧ w.cell? ⟨b, o + 2, none⟩ = some (.string t.2.2)

/-- A row that reads as these tokens. -/
def RdTk (w : World) (a : Option Addr) (ts : List Tok) : Prop := ∀ (i : Nat) (t : Tok), ts[i]? = some t → ∃ b, a = some ⟨b, 0, none⟩ ∧ Three w b (i * 3) t

theorem RdTk.later {w w' : World} {a : Option Addr} {ts : List Tok} (h : RdTk w a ts) (hb : Below w.heap.size w w') : RdTk w' a ts := fun i t ht => by
  obtain ⟨b, e, h1, h2, h3⟩ := h i t ht
  exact ⟨b, e, cell_later hb h1, cell_later hb h2, cell_later hb h3⟩

theorem tokCells_at : ∀ (ts : List Tok) (i : Nat) (t : Tok), ts[i]? = some t → (tokCells ts)[i * 3]? = some (.int .i64 t.1) ∧ (tokCells ts)[i * 3 + 1]? = some (.int .i64 t.2.1) ∧ (tokCells ts)[i * 3 + 2]? = some (.string t.2.2)
  | [], i, t, h => by simp at h
  | u :: r, 0, t, h => by
    obtain rfl : u = t := by simpa using h
    exact ⟨rfl, rfl, rfl⟩
  | u :: r, i + 1, t, h => by
    have ih := tokCells_at r i t (by simpa using h)
    rw [show (i + 1) * 3 = i * 3 + 1 + 1 + 1 from by omega]
    exact ⟨ih.1, ih.2.1, ih.2.2⟩

theorem tokCells_len : ∀ ts : List Tok, (tokCells ts).length = ts.length * 3
  | [] => rfl
  | u :: r => by have := tokCells_len r; show (tokCells r).length + 1 + 1 + 1 = _; rw [List.length_cons]; omega

theorem rdTk_own {w : World} {B c : Nat} {a : Option Addr} {ts : List Tok} (h : w.ownsRow B 59 3 (.slice a ts.length c) ts.length (tokCells ts)) : RdTk w a ts := fun i t ht => by
  have hi : i < ts.length := (List.getElem?_eq_some_iff.1 ht).1
  obtain ⟨e1, e2, e3⟩ := tokCells_at ts i t ht
  have h0 := h
  rcases h0.2 with ⟨h1, h2⟩ | ⟨g, c', cur, f1, _⟩
  · omega
  · simp only [Value.slice.injEq, true_and] at f1
    obtain ⟨rfl, rfl⟩ := f1
    refine ⟨g, rfl, ?_, ?_, ?_⟩
    · rw [h.cellAt (i * 3) (by omega)]; exact e1
    · rw [h.cellAt (i * 3 + 1) (by omega)]; exact e2
    · rw [h.cellAt (i * 3 + 2) (by omega)]; exact e3

set_option maxHeartbeats 1000000 in
theorem eqToken_any (k n : Int) (s : ByteArray) (w : World) :
    Calls Try.prog 90 #[.agg #[.int .i64 k, .int .i64 n, .string s], .agg #[.int .i64 k, .int .i64 n, .string s]] w fun e w' => e = .returned (.bool true) ∧ Below w.heap.size w w' := by
  have hA : Below w.heap.size w ((w.alloc (.cells #[.int .i64 k, .int .i64 n, .string s] 59)).alloc (.cells #[.int .i64 k, .int .i64 n, .string s] 59)) := ((Below.refl _ _).alloc (Nat.le_refl _) _).alloc (by simp) _
  go_enter Try.func90, Try.ntmps90
  go_wp2
  go_ret
  exact ⟨rfl, hA⟩

set_option maxHeartbeats 1000000 in
theorem eqTokenS_any (a1 a2 : Option Addr) (c1 c2 : Nat) (ts : List Tok) (w : World) (h1 : RdTk w a1 ts) (h2 : RdTk w a2 ts) (hm : ts.length ≤ 2000) :
    Calls Try.prog 52 #[.slice a1 ts.length c1, .slice a2 ts.length c2] w fun e w' => e = .returned (.bool true) ∧ Below w.heap.size w w' := by
  have HE1 : Hid (RdTk w a1 ts) := h1
  have HE2 : Hid (RdTk w a2 ts) := h2
  obtain ⟨len, hlen⟩ : ∃ len, ts.length = len := ⟨_, rfl⟩
  have HLN : Hid (ts.length = len) := hlen
  rw [hlen] at hm ⊢
  clear hlen h1 h2
  go_enter Try.func52, Try.ntmps52
  go_wp2_with fail
  go_loopw [5] (fun i wr => ∃ k : Nat, k ≤ len ∧ i = .int .i64 k ∧ Below w.heap.size w wr) (fun i _ => len - (intOf i).toNat)
  case atStart => exact ⟨0, Nat.zero_le _, rfl, Below.refl _ _⟩
  case round =>
    obtain ⟨k, hk, rfl, hb⟩ := hrel
    by_cases hkl : k < len
    · obtain ⟨t, ht⟩ : ∃ t, ts[k]? = some t := ⟨_, List.getElem?_eq_getElem (by rw [HLN.out]; exact hkl)⟩
      obtain ⟨b1, rfl, F1⟩ := HE1.out k t ht
      obtain ⟨b2, rfl, F2⟩ := HE2.out k t ht
      obtain ⟨f0, f1, f2⟩ := F1
      obtain ⟨g0, g1, g2⟩ := F2
      have f0 := cell_later hb f0
      have f1 := cell_later hb f1
      have f2 := cell_later hb f2
      have g0 := cell_later hb g0
      have g1 := cell_later hb g1
      have g2 := cell_later hb g2
      have hkl' : (k : Int) < (len : Int) := by omega
      have HC : Hid (∀ W : World, Calls Try.prog 90 #[.agg #[.int .i64 t.1, .int .i64 t.2.1, .string t.2.2], .agg #[.int .i64 t.1, .int .i64 t.2.1, .string t.2.2]] W fun e w' => e = .returned (.bool true) ∧ Below W.heap.size W w') :=
        fun W => eqToken_any t.1 t.2.1 t.2.2 W
      go_wp2_with fail
      go_region_with (go_at_call 90; refine (HC.out _).mono ?_; rintro e W ⟨rfl, hB⟩)
      all_goals
        have hb2 : Below w.heap.size w W := hb.drew.trans (hB.mono hb.drew.size)
        clear hb hB
        go_wp2
        go_roundw
        case rel => exact ⟨k + 1, by omega, by go_num, hb2⟩
        case measure => simp [intOf]; omega
    · go_wp2
      go_ret
      exact ⟨rfl, hb⟩

/-- The marks on tokens from k on. -/
def mkTs (k : Int) : List Tok → List Tok
  | [] => []
  | _ :: r => tk3 k (k + 1) (mt (k + 2)) :: mkTs (k + 3) r

theorem mkTs_len : ∀ (ts : List Tok) (k : Int), (mkTs k ts).length = ts.length
  | [], _ => rfl
  | _ :: r, k => by show (mkTs (k + 3) r).length + 1 = r.length + 1; rw [mkTs_len r]

theorem mkTs_at : ∀ (ts : List Tok) (k : Int) (j : Nat), j < ts.length → (mkTs k ts)[j]? = some (tk3 (k + 3 * j) (k + 3 * j + 1) (mt (k + 3 * j + 2)))
  | [], _, j, h => by simp at h
  | _ :: r, k, 0, _ => by show some _ = some _; simp
  | _ :: r, k, j + 1, h => by
    have ih := mkTs_at r (k + 3) j (by simpa using h)
    show (mkTs (k + 3) r)[j]? = _
    rw [ih, show k + 3 + 3 * (j : Int) = k + 3 * ((j + 1 : Nat) : Int) from by omega]

/-- The first j tokens marked, the others as they were. -/
def halfT (k : Int) (ts : List Tok) (j : Nat) : List Tok := (mkTs k ts).take j ++ ts.drop j

theorem tok_set (k n : Int) (S : ByteArray) : ∀ (A : List Tok) (t : Tok) (B : List Tok), (((tokCells (A ++ t :: B)).set (A.length * 3) (.int .i64 k)).set (A.length * 3 + 1) (.int .i64 n)).set (A.length * 3 + 2) (.string S) = tokCells (A ++ tk3 k n S :: B)
  | [], t, B => rfl
  | u :: A, t, B => by
    have ih := tok_set k n S A t B
    rw [List.length_cons, show (A.length + 1) * 3 = A.length * 3 + 1 + 1 + 1 from by omega]
    show _ :: _ :: _ :: (((tokCells (A ++ t :: B)).set (A.length * 3) (.int .i64 k)).set (A.length * 3 + 1) (.int .i64 n)).set (A.length * 3 + 2) (.string S) = _ :: _ :: _ :: tokCells (A ++ tk3 k n S :: B)
    rw [ih]

theorem half_step3 (k : Int) (ts : List Tok) (j : Nat) (h : j < ts.length) :
    (((tokCells (halfT k ts j)).set (j * 3) (.int .i64 (k + 3 * j))).set (j * 3 + 1) (.int .i64 (k + 3 * j + 1))).set (j * 3 + 2) (.string (mt (k + 3 * j + 2))) = tokCells (halfT k ts (j + 1)) := by
  have hl : ((mkTs k ts).take j).length = j := by rw [List.length_take, mkTs_len]; omega
  have hd : ts.drop j = ts[j] :: ts.drop (j + 1) := List.drop_eq_getElem_cons h
  have hm := mkTs_at ts k j h
  have hs := tok_set (k + 3 * j) (k + 3 * j + 1) (mt (k + 3 * j + 2)) ((mkTs k ts).take j) ts[j] (ts.drop (j + 1))
  rw [hl] at hs
  unfold halfT
  rw [hd, hs, List.take_add_one, hm]
  simp

theorem half_len3 (k : Int) (ts : List Tok) (j : Nat) (h : j ≤ ts.length) : (halfT k ts j).length = ts.length := by
  unfold halfT
  rw [List.length_append, List.length_take, List.length_drop, mkTs_len]
  omega

set_option maxHeartbeats 2000000 in
theorem markTokenS_any (B c : Nat) (a : Option Addr) (ts : List Tok) (w : World) (hown : w.ownsRow B 59 3 (.slice a ts.length c) ts.length (tokCells ts)) (hm : ts.length ≤ 2000) :
    Calls Try.prog 53 #[.slice a ts.length c, .int .i64 1] w fun e w' => e = .returned (.int .i64 (1 + 3 * (ts.length : Int))) ∧ w'.ownsRow B 59 3 (.slice a ts.length c) ts.length (tokCells (mkTs 1 ts)) ∧ w.grownBy w' (Value.slice a ts.length c).ownBlock := by
  rcases hown.2 with ⟨h1, h2⟩ | ⟨g, c', cur, f1, hBg, hg, _⟩
  · have hts : ts = [] := List.length_eq_zero_iff.1 h2
    subst hts
    simp only [Value.slice.injEq] at h1
    obtain ⟨rfl, _, rfl⟩ := h1
    go_enter Try.func53, Try.ntmps53
    go_wp2
    refine wp_loop_rounds 1 ?_
    rw [rounds_succ]
    go_wp2
    go_ret
    exact ⟨rfl, hown, World.grownBy.refl _ _⟩
  · simp only [Value.slice.injEq, true_and] at f1
    obtain ⟨rfl, rfl⟩ := f1
    have HT0 : Hid (w.ownsRow B 59 3 (.slice (some ⟨g, 0, none⟩) ts.length c) ts.length (tokCells (halfT 1 ts 0))) := by
      have : halfT 1 ts 0 = ts := by simp [halfT]
      rw [this]; exact hown
    have HSET : Hid (∀ j, j < ts.length → (((tokCells (halfT 1 ts j)).set (j * 3) (.int .i64 (1 + 3 * j))).set (j * 3 + 1) (.int .i64 (1 + 3 * j + 1))).set (j * 3 + 2) (.string (mt (1 + 3 * j + 2))) = tokCells (halfT 1 ts (j + 1))) := fun j hj => half_step3 1 ts j hj
    have HFULL : Hid (halfT 1 ts ts.length = mkTs 1 ts) := by
      show _ = _
      unfold halfT
      rw [List.drop_length, List.append_nil, List.take_of_length_le (by rw [mkTs_len]; exact Nat.le_refl _)]
    have HLEN : Hid (∀ j, j ≤ ts.length → (tokCells (halfT 1 ts j)).length = ts.length * 3) := fun j hj => by rw [tokCells_len, half_len3 1 ts j hj]
    obtain ⟨len, hl⟩ : ∃ len, ts.length = len := ⟨_, rfl⟩
    rw [hl] at HT0 HSET HFULL HLEN hm ⊢
    obtain ⟨f, hf⟩ : ∃ f : Nat → List Value, f = fun j => tokCells (halfT 1 ts j) := ⟨_, rfl⟩
    have HF : Hid (∀ j, tokCells (halfT 1 ts j) = f j) := fun j => by rw [hf]
    have HT : Hid (w.ownsRow B 59 3 (.slice (some ⟨g, 0, none⟩) len c) len (f 0)) := by rw [← HF.out]; exact HT0.out
    have HS : Hid (∀ j, j < len → (((f j).set (j * 3) (.int .i64 (1 + 3 * j))).set (j * 3 + 1) (.int .i64 (1 + 3 * j + 1))).set (j * 3 + 2) (.string (mt (1 + 3 * j + 2))) = f (j + 1)) := fun j hj => by rw [← HF.out, ← HF.out]; exact HSET.out j hj
    have HLE : Hid (∀ j, j ≤ len → (f j).length = len * 3) := fun j hj => by rw [← HF.out]; exact HLEN.out j hj
    have HFU : Hid (f len = tokCells (mkTs 1 ts)) := by rw [← HF.out, HFULL.out]; exact rfl
    clear hown hl hg hf HF HT0 HSET HFULL HLEN
    go_enter Try.func53, Try.ntmps53
    go_wp2_with fail
    go_loopw [1, 5] (fun x i wr => ∃ j : Nat, j ≤ len ∧ i = .int .i64 j ∧ x = .int .i64 (1 + 3 * (j : Int)) ∧ Hid (wr.ownsRow B 59 3 (.slice (some ⟨g, 0, none⟩) len c) len (f j)) ∧ w.grownBy wr (some g)) (fun _ i _ => len - (intOf i).toNat)
    case atStart => exact ⟨0, Nat.zero_le _, rfl, rfl, HT, World.grownBy.refl _ _⟩
    case round =>
      obtain ⟨j, hj, rfl, rfl, HO, hgr⟩ := hrel
      obtain ⟨q, hq⟩ : ∃ q, 1 + 3 * (j : Int) = q := ⟨_, rfl⟩
      have HQ : Hid (1 + 3 * (j : Int) = q) := hq
      have hq0 : 0 ≤ q := by omega
      have hq1 : q ≤ 6001 := by omega
      rw [hq]
      clear hq
      by_cases hjl : j < len
      · have hfl := HLE.out j hj
        obtain ⟨v0, s0⟩ : ∃ v, wr.cell? ⟨g, j * 3, none⟩ = some v := by rw [HO.out.cellAt (j * 3) (by omega)]; exact ⟨_, List.getElem?_eq_getElem (by omega)⟩
        obtain ⟨v1, s1⟩ : ∃ v, wr.cell? ⟨g, j * 3 + 1, none⟩ = some v := by rw [HO.out.cellAt (j * 3 + 1) (by omega)]; exact ⟨_, List.getElem?_eq_getElem (by omega)⟩
        have z0 : wr.frozen? ⟨g, j * 3, none⟩ = false := HO.out.frozenAt _
        have z1 : wr.frozen? ⟨g, j * 3 + 1, none⟩ = false := HO.out.frozenAt _
        have st1 := HO.out.stored (j * 3) (.int .i64 q)
        have st2 := st1.1.stored (j * 3 + 1) (.int .i64 (q + 1))
        obtain ⟨W2, hW2⟩ : ∃ W2, W2 = (wr.setCell ⟨g, j * 3, none⟩ (.int .i64 q)).setCell ⟨g, j * 3 + 1, none⟩ (.int .i64 (q + 1)) := ⟨_, rfl⟩
        rw [← hW2] at st2
        have hg2 : w.grownBy W2 (some g) := ⟨st2.2.os.trans (st1.2.os.trans hgr.os), st2.2.tape.trans (st1.2.tape.trans hgr.tape), st2.2.output.trans (st1.2.output.trans hgr.output), Nat.le_trans hgr.size (Nat.le_trans st1.2.size st2.2.size), fun k hk hne => (st2.2.block k (Nat.lt_of_lt_of_le hk (Nat.le_trans hgr.size st1.2.size)) hne).trans ((st1.2.block k (Nat.lt_of_lt_of_le hk hgr.size) hne).trans (hgr.block k hk hne))⟩
        have HO2 : Hid (W2.ownsRow B 59 3 (.slice (some ⟨g, 0, none⟩) len c) len (((f j).set (j * 3) (.int .i64 q)).set (j * 3 + 1) (.int .i64 (q + 1)))) := st2.1
        have hC := markText_any (q + 1 + 1) W2 (by omega) (by omega)
        rw [hW2] at hC
        have HW2 : Hid (W2 = _) := hW2
        clear hW2 st1 st2 HO hgr
        go_wp2_with fail
        refine hC.mono ?_
        clear hC
        rintro e V ⟨rfl, hBV⟩
        rw [← HW2.out] at hBV
        have HO3 := ownsRow_kept HO2.out hBV
        obtain ⟨v2, t2⟩ : ∃ v, V.cell? ⟨g, j * 3 + 2, none⟩ = some v := by rw [HO3.cellAt (j * 3 + 2) (by omega)]; exact ⟨_, List.getElem?_eq_getElem (by simp; omega)⟩
        have zz2 : V.frozen? ⟨g, j * 3 + 2, none⟩ = false := HO3.frozenAt _
        have st3 := HO3.stored (j * 3 + 2) (.string (mt (q + 1 + 1)))
        have hg3 : w.grownBy (V.setCell ⟨g, j * 3 + 2, none⟩ (.string (mt (q + 1 + 1)))) (some g) := ⟨st3.2.os.trans (hBV.os.trans hg2.os), st3.2.tape.trans (hBV.tape.trans hg2.tape), st3.2.output.trans (hBV.output.trans hg2.output), Nat.le_trans hg2.size (Nat.le_trans hBV.size st3.2.size), fun k hk hne => (st3.2.block k (Nat.lt_of_lt_of_le hk (Nat.le_trans hg2.size hBV.size)) hne).trans ((hBV.block k (Nat.lt_of_lt_of_le hk hg2.size)).trans (hg2.block k hk hne))⟩
        have HO4 : Hid ((V.setCell ⟨g, j * 3 + 2, none⟩ (.string (mt (q + 1 + 1)))).ownsRow B 59 3 (.slice (some ⟨g, 0, none⟩) len c) len (f (j + 1))) := by
          have h9 := HS.out j hjl
          rw [HQ.out, show q + 2 = q + 1 + 1 from by omega] at h9
          rw [← h9]; exact st3.1
        clear HO3 st3 HO2 hg2 hBV HW2 s0 s1 z0 z1 hfl
        go_wp2_with fail
        go_roundw
        case rel => exact ⟨j + 1, by omega, by go_num, by have := HQ.out; congr 1; omega, HO4, hg3⟩
        case measure => simp [intOf]; omega
      · have hjn : j = len := by omega
        subst hjn
        have HE : Hid (q = 1 + 3 * (j : Int)) := HQ.out.symm
        have HOE : Hid (wr.ownsRow B 59 3 (.slice (some ⟨g, 0, none⟩) j c) j (tokCells (mkTs 1 ts))) := by rw [← HFU.out]; exact HO.out
        clear HO HQ
        go_wp2
        go_ret
        exact ⟨tret1 HE.out, HOE.out, hgr⟩

set_option maxHeartbeats 2000000 in
theorem heldTokenS_any (c : Nat) (a : Option Addr) (ts : List Tok) (w : World) (hr : RdTk w a (mkTs 1 ts)) (hm : ts.length ≤ 2000) :
    Calls Try.prog 54 #[.slice a ts.length c, .int .i64 1] w fun e w' => e = .returned (.int .i64 (1 + 3 * (ts.length : Int))) ∧ Below w.heap.size w w' := by
  have HE : Hid (∀ j, j < ts.length → ∃ b, a = some ⟨b, 0, none⟩ ∧ Three w b (j * 3) (tk3 (1 + 3 * j) (1 + 3 * j + 1) (mt (1 + 3 * j + 2)))) := fun j hj => hr j _ (mkTs_at ts 1 j hj)
  obtain ⟨len, hl⟩ : ∃ len, ts.length = len := ⟨_, rfl⟩
  rw [hl] at HE hm ⊢
  clear hl hr
  go_enter Try.func54, Try.ntmps54
  go_wp2_with fail
  go_loopw [1, 5] (fun x i wr => ∃ j : Nat, j ≤ len ∧ i = .int .i64 j ∧ x = .int .i64 (1 + 3 * (j : Int)) ∧ Below w.heap.size w wr) (fun _ i _ => len - (intOf i).toNat)
  case atStart => exact ⟨0, Nat.zero_le _, rfl, rfl, Below.refl _ _⟩
  case round =>
    obtain ⟨j, hj, rfl, rfl, hb⟩ := hrel
    obtain ⟨q, hq⟩ : ∃ q, 1 + 3 * (j : Int) = q := ⟨_, rfl⟩
    have HQ : Hid (1 + 3 * (j : Int) = q) := hq
    have hq0 : 0 ≤ q := by omega
    have hq1 : q ≤ 6001 := by omega
    rw [hq]
    clear hq
    by_cases hjl : j < len
    · obtain ⟨b, rfl, f0, f1, f2⟩ := HE.out j hjl
      rw [HQ.out, show q + 2 = q + 1 + 1 from by omega] at f0 f1 f2
      have f0 : wr.cell? ⟨b, j * 3, none⟩ = some (.int .i64 q) := cell_later hb f0
      have f1 : wr.cell? ⟨b, j * 3 + 1, none⟩ = some (.int .i64 (q + 1)) := cell_later hb f1
      have f2 : wr.cell? ⟨b, j * 3 + 2, none⟩ = some (.string (mt (q + 1 + 1))) := cell_later hb f2
      have HMT : Hid (∀ V : World, Calls Try.prog 91 #[.int .i64 (q + 1 + 1)] V fun e w' => e = .returned (.string (mt (q + 1 + 1))) ∧ Below V.heap.size V w') := fun V => markText_any (q + 1 + 1) V (by omega) (by omega)
      obtain ⟨M, hM⟩ : ∃ M, mt (q + 1 + 1) = M := ⟨_, rfl⟩
      rw [hM] at HMT f2
      clear hM
      have hjl' : (j : Int) < (len : Int) := by omega
      go_upto_region 10 with fail
      go_cut [37] (fun v wx => v = .bool false ∧ Below wr.heap.size wr wx)
      case first =>
        go_region_with (go_at_call 91; refine (HMT.out _).mono ?_; rintro e V ⟨rfl, hB⟩; have g2 := cell_later ((Below.refl _ _).drew.trans hB) f2)
        all_goals
          go_wp2_with fail
          go_meet
          case rel => exact ⟨by first | rfl | simp, (Below.refl _ _).drew.trans hB⟩
      case rest =>
        obtain ⟨rfl, hbr⟩ := hcut
        have hb2 : Below w.heap.size w wc := hb.trans (hbr.mono hb.size)
        clear f0 f1 f2 hb hbr
        go_wp2_with fail
        go_roundw
        case rel => exact ⟨j + 1, by omega, by go_num, by have := HQ.out; congr 1; omega, hb2⟩
        case measure => simp [intOf]; omega
    · have hjn : j = len := by omega
      subst hjn
      have HE2 : Hid (q = 1 + 3 * (j : Int)) := HQ.out.symm
      clear HQ
      go_wp2
      go_ret
      exact ⟨tret1 HE2.out, hb⟩

end Go.Proofs.Ytickaplokjdijaa
