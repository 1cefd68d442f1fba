/- Tokens that were read are right; and a text with a remark ahead and the end of a line behind is read as the text. -/
import Derived.Test.YtickaplokjdijaaDoorLawK
import Derived.Test.YtickaplokjdijaaDoorDrTk2
namespace Go.Proofs.YtickaplokjdijaaDoor
open Go.RowKit
set_option linter.unusedVariables false

theorem OneAt.ok {s : ByteArray} {i e : Nat} {t : Tok} (h : OneAt s i t e) : DTok t.1 t.2.1 t.2.2 := by
  obtain ⟨h1, h2⟩ := h.lt
  obtain ⟨hi, h | h | h | h⟩ := h
  · obtain ⟨g1, g2, g3, g4, rfl⟩ := h
    exact ⟨(tokP1 _ _).2 ⟨⟨Int.natCast_nonneg _, g4⟩, rfl⟩, Nat.zero_le _⟩
  · obtain ⟨g1, g2, g3, rfl⟩ := h
    have hsz := ex_size s i e h2
    exact ⟨(tokP2 _ _).2 ⟨(atom_iff hi g1 g2).2 g3, rfl⟩, by show (s.extract i e).size ≤ 20; omega⟩
  · obtain ⟨g1, g2, g3, rfl⟩ := h
    have hsz := ex_size s i e h2
    exact ⟨(tokP3 _ _).2 ⟨(name_iff hi g1 g2).2 g3, rfl⟩, by show (s.extract i e).size ≤ 20; omega⟩
  · obtain ⟨g1, g2, g3, g4, g5, rfl⟩ := h
    have hsz := ex_size s i e h2
    have hr := mkn_range (s.data.toList.drop i)
    have he : e = i + (e - i) := by omega
    have hm := (mark_iff (m := e - i) hi (by omega)).1 (by omega)
    rw [← he] at hm
    exact ⟨(tokP4 _ _).2 ⟨hm, rfl⟩, by show (s.extract i e).size ≤ 20; omega⟩

theorem lexF_ok {s : ByteArray} : ∀ (f i : Nat) (acc r : List Tok) (q : Int), DToks acc → LexF s f i acc r q → DToks r := by
  intro f
  induction f with
  | zero => intro i acc r q _ h; exact h.elim
  | succ f ih =>
    intro i acc r q ha h
    rcases h with ⟨_, rfl, _⟩ | ⟨_, _, h⟩ | ⟨_, j, _, _, h⟩ | ⟨_, _, _, _, rfl, _⟩ | ⟨_, t, e, _, _, h1, _, h⟩
    · exact ha
    · exact ih _ _ _ _ ha h
    · exact ih _ _ _ _ ha h
    · intro t ht; cases ht
    · refine ih _ _ _ _ (fun u hu => ?_) h
      rcases List.mem_append.1 hu with h2 | h2
      · exact ha u h2
      · obtain rfl := List.mem_singleton.1 h2
        exact h1.ok

theorem LexR.ok {s : ByteArray} {r : List Tok} {q : Int} (h : LexR s 0 [] r q) : DToks r := by
  obtain ⟨f, h⟩ := h
  exact lexF_ok f 0 [] r q (fun t ht => by cases ht) h

/-- Where no token is read, none is handed on. -/
theorem lexF_none {s : ByteArray} : ∀ (f i : Nat) (acc r : List Tok) (q : Int), LexF s f i acc r q → q ≠ -1 → r = [] := by
  intro f
  induction f with
  | zero => intro i acc r q h; exact h.elim
  | succ f ih =>
    intro i acc r q h hq
    rcases h with ⟨_, _, h⟩ | ⟨_, _, h⟩ | ⟨_, j, _, _, h⟩ | ⟨_, _, _, _, h, _⟩ | ⟨_, t, e, _, _, h1, _, h⟩
    · exact absurd h hq
    · exact ih _ _ _ _ h hq
    · exact ih _ _ _ _ h hq
    · exact h
    · exact ih _ _ _ _ h hq
theorem LexR.none {s : ByteArray} {r : List Tok} {q : Int} (h : LexR s 0 [] r q) (hq : q ≠ -1) : r = [] := by
  obtain ⟨f, h⟩ := h
  exact lexF_none f 0 [] r q h hq

/-- A text in another: some bytes ahead, the end of a line behind. -/
structure InX (s x : ByteArray) (d : Nat) : Prop where
  size : x.size = d + s.size + 1
  at_ : ∀ (j : Nat) (h : j < s.size) (h2 : d + j < x.size), x[d + j] = s[j]
  behind : ∀ (h : d + s.size < x.size), (x[d + s.size].toNat : Int) = 10
  drop : ∀ i, i ≤ s.size → x.data.toList.drop (d + i) = s.data.toList.drop i ++ [10]

theorem InX.run {s x : ByteArray} {d i e : Nat} {p : Int → Bool} (hx : InX s x d) (h10 : p 10 = false) (h : RunTo p s i e) : RunTo p x (d + i) (d + e) := by
  obtain ⟨h1, h2, h3, h4⟩ := h
  have hs := hx.size
  refine ⟨by omega, by omega, fun j hj g1 g2 => ?_, fun hj => ?_⟩
  · have h5 := hx.at_ (j - d) (by omega) (by omega)
    have e1 : d + (j - d) = j := by omega
    simp only [e1] at h5
    rw [h5]
    exact h3 (j - d) (by omega) (by omega) (by omega)
  · by_cases he : e < s.size
    · rw [hx.at_ e he hj]
      exact h4 he
    · obtain rfl : e = s.size := by omega
      rw [hx.behind hj]
      exact h10

theorem InX.ex {s x : ByteArray} {d i e : Nat} (hx : InX s x d) (he : e ≤ s.size) (hie : i ≤ e) : x.extract (d + i) (d + e) = s.extract i e := by
  apply ByteArray.ext
  apply Array.ext'
  rw [Lib.extract_data, Lib.extract_data, hx.drop i (by omega), show d + e - (d + i) = e - i by omega, List.take_append_of_le_length]
  rw [List.length_drop, ← Lib.size_eq]
  omega

theorem mkn_end (l : List UInt8) (h : l ≠ []) : mkn (l ++ [10]) = mkn l := by
  have key : ∀ a b : UInt8, b ≠ 10 → (Lib.hasPrefix (l ++ [10]) [a, b] = true ↔ Lib.hasPrefix l [a, b] = true) := fun a b hb => by
    rw [pre2, pre2]
    constructor
    · rintro ⟨r, hr⟩
      match l, h with
      | [c], _ =>
        simp only [List.cons_append, List.nil_append, List.cons.injEq] at hr
        exact absurd hr.2.1.symm hb
      | c :: c2 :: l2, _ =>
        simp only [List.cons_append, List.cons.injEq] at hr
        exact ⟨l2, by rw [hr.1, hr.2.1]⟩
    · rintro ⟨r, rfl⟩
      exact ⟨r ++ [10], rfl⟩
  have hh : (l ++ [10]).headD 0 = l.headD 0 := by
    cases l with
    | nil => exact absurd rfl h
    | cons a b => rfl
  unfold mkn
  rw [hh]
  simp only [key 45 62 (by decide), key 61 61 (by decide)]

theorem InX.one {s x : ByteArray} {d i e : Nat} {t : Tok} (hx : InX s x d) (h : OneAt s i t e) : OneAt x (d + i) t (d + e) := by
  obtain ⟨h1, h2⟩ := h.lt
  obtain ⟨hi, h⟩ := h
  have hs := hx.size
  have hi2 : d + i < x.size := by omega
  have ha := hx.at_ i hi hi2
  have hex := hx.ex h2 (Nat.le_of_lt h1)
  have hsub : d + e - (d + i) = e - i := by omega
  refine ⟨hi2, ?_⟩
  rw [ha, hex, hsub, hx.drop i (by omega), mkn_end _ (drop_ne hi)]
  rcases h with ⟨g1, g2, g3⟩ | ⟨g1, g2, g3⟩ | ⟨g1, g2, g3⟩ | ⟨g1, g2, g3, g4, g5, g6⟩
  · exact .inl ⟨g1, hx.run (by decide) g2, g3⟩
  · exact .inr (.inl ⟨g1, hx.run (by decide) g2, g3⟩)
  · exact .inr (.inr (.inl ⟨g1, hx.run (by decide) g2, g3⟩))
  · exact .inr (.inr (.inr ⟨g1, g2, g3, g4, by omega, g6⟩))

theorem InX.lex {s x : ByteArray} {d : Nat} (hx : InX s x d) : ∀ (f i : Nat) (acc r : List Tok), i ≤ s.size → LexF s f i acc r (-1) → LexR x (d + i) acc r (-1) := by
  intro f
  have hs := hx.size
  induction f with
  | zero => intro i acc r _ h; exact h.elim
  | succ f ih =>
    intro i acc r hi h
    rcases h with ⟨h1, rfl, _⟩ | ⟨h1, h2, h⟩ | ⟨h1, j, h2, h3, h⟩ | ⟨h1, _, _, _, _, hq⟩ | ⟨h1, t, e, h2, h3, h4, h5, h⟩
    · obtain rfl : i = s.size := by omega
      refine .blank (d + s.size) r r (-1) (by omega) (.inr (.inr (.inl (hx.behind (by omega))))) (.done _ _ (by omega))
    · refine .blank (d + i) acc r (-1) (by omega) (by rw [hx.at_ i h1 (by omega)]; exact h2) ?_
      exact ih (i + 1) acc r (by omega) h
    · refine .remark (d + i) (d + j) acc r (-1) (by omega) (by rw [hx.at_ i h1 (by omega)]; exact h2) (hx.run (by decide) h3) ?_
      exact ih j acc r h3.2.1 h
    · omega
    · have hl := h4.lt
      refine .tok (d + i) acc r (-1) t (d + e) (by omega) (by rw [hx.at_ i h1 (by omega)]; exact h2) (by rw [hx.at_ i h1 (by omega)]; exact h3) (hx.one h4) h5 ?_
      exact ih e (acc ++ [t]) r hl.2 h

/-- The remark of the law. -/
def rmk : ByteArray := ⟨#[32, 37, 32, 114, 101, 109, 97, 114, 107, 10]⟩

theorem rmk_in (s : ByteArray) : InX s ((rmk ++ s) ++ ⟨#[10]⟩) 10 := by
  have hr : rmk.size = 10 := rfl
  have h1 : (⟨#[10]⟩ : ByteArray).size = 1 := rfl
  have hd : ((rmk ++ s) ++ ⟨#[10]⟩ : ByteArray).data.toList = rmk.data.toList ++ (s.data.toList ++ [10]) := by
    rw [ByteArray.data_append, ByteArray.data_append, Array.toList_append, Array.toList_append, List.append_assoc]
  have hg : ∀ (j : Nat) (h : j < ((rmk ++ s) ++ ⟨#[10]⟩ : ByteArray).size), ((rmk ++ s) ++ ⟨#[10]⟩ : ByteArray).data.toList[j]? = some ((rmk ++ s) ++ ⟨#[10]⟩ : ByteArray)[j] := fun j h => by
    rw [List.getElem?_eq_getElem (by rw [← Lib.size_eq]; exact h)]; rfl
  have hrl : rmk.data.toList.length = 10 := rfl
  refine ⟨by rw [ByteArray.size_append, ByteArray.size_append, hr, h1], fun j h h2 => ?_, fun h => ?_, fun i hi => ?_⟩
  · have := hg (10 + j) h2
    rw [hd, List.getElem?_append_right (by omega), hrl, Nat.add_sub_cancel_left, List.getElem?_append_left (by rw [← Lib.size_eq]; exact h), List.getElem?_eq_getElem (by rw [← Lib.size_eq]; exact h)] at this
    exact (Option.some.inj this).symm
  · have := hg (10 + s.size) h
    have e2 : (s.data.toList ++ [(10 : UInt8)])[s.size]? = some 10 := by rw [Lib.size_eq s, List.getElem?_append_right (Nat.le_refl _), Nat.sub_self]; rfl
    rw [hd, List.getElem?_append_right (by omega), hrl, Nat.add_sub_cancel_left, e2] at this
    have h3 := Option.some.inj this
    rw [← h3]
    rfl
  · rw [hd, List.drop_append, hrl, List.drop_eq_nil_of_le (by rw [hrl]; omega), List.nil_append, Nat.add_sub_cancel_left, List.drop_append_of_le_length (by rw [← Lib.size_eq]; exact hi)]

/-- A remark ahead and the end of a line behind change nothing. -/
theorem lex_remark {s : ByteArray} {r : List Tok} (h : LexR s 0 [] r (-1)) : LexR ((rmk ++ s) ++ ⟨#[10]⟩) 0 [] r (-1) := by
  obtain ⟨f, h⟩ := h
  have hx := rmk_in s
  have hs := hx.size
  have hA := hx.lex f 0 [] r (Nat.zero_le _) h
  generalize hX : ((rmk ++ s) ++ ⟨#[10]⟩ : ByteArray) = X at hA hs ⊢
  have hp : ∀ (j : Nat) (h : j < X.size) (hj : j < 10), X[j] = rmk[j]'(by exact hj) := fun j h hj => by
    subst hX
    have h1 : j < (rmk ++ s).size := by rw [ByteArray.size_append]; show j < 10 + _; omega
    rw [ByteArray.getElem_append_left h1, ByteArray.getElem_append_left (show j < rmk.size from hj)]
    rfl
  have h9 : LexR X 9 [] r (-1) := .blank 9 [] r (-1) (by omega) (by rw [hp 9 (by omega) (by omega)]; exact .inr (.inr (.inl rfl))) hA
  have h1 : LexR X 1 [] r (-1) := by
    refine .remark 1 9 [] r (-1) (by omega) (by rw [hp 1 (by omega) (by omega)]; rfl) ⟨by omega, by omega, fun j hj g1 g2 => ?_, fun hj => by rw [hp 9 hj (by omega)]; rfl⟩ h9
    rw [hp j hj (by omega)]
    have : ∀ j : Fin 10, 1 ≤ (j : Nat) → (j : Nat) < 9 → nlB ((rmk[(j : Nat)]'(j.2)).toNat : Int) = true := by decide
    exact this ⟨j, by omega⟩ g1 g2
  exact .blank 0 [] r (-1) (by omega) (by rw [hp 0 (by omega) (by omega)]; exact .inl rfl) h1

end Go.Proofs.YtickaplokjdijaaDoor
