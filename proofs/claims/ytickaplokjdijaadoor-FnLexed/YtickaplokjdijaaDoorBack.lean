/- Tokens that are joined with blanks are read back. -/
import Derived.Test.YtickaplokjdijaaDoorLx3
import Derived.Test.YtickaplokjdijaaDoorJT2
namespace Go.Proofs.YtickaplokjdijaaDoor
open Go.RowKit
set_option linter.unusedVariables false

/-- Digits of a number: digits, the first no 0 but alone, and the number again. -/
theorem dec_back : ∀ (f u : Nat), u < 10 ^ f → (∀ c ∈ Lib.decDigits u, 48 ≤ c.toNat ∧ c.toNat ≤ 57) ∧ dv (Lib.decDigits u) = u ∧ 0 < (Lib.decDigits u).length ∧ (1 < (Lib.decDigits u).length → 10 ≤ u) ∧ (0 < u → (Lib.decDigits u).headD 0 ≠ 48) := by
  intro f
  induction f with
  | zero =>
    intro u hu
    obtain rfl : u = 0 := by simpa using hu
    rw [Lib.decDigits]
    decide
  | succ f ih =>
    intro u hu
    rw [Lib.decDigits]
    by_cases h : u < 10
    · rw [dif_pos h]
      have hc : (UInt8.ofNat (48 + u)).toNat = 48 + u := by rw [UInt8.toNat_ofNat']; omega
      refine ⟨fun c hm => ?_, ?_, by simp, by simp, fun h0 e => ?_⟩
      · simp only [List.mem_singleton] at hm
        subst hm
        omega
      · show 0 * 10 + ((UInt8.ofNat (48 + u)).toNat - 48) = u
        omega
      · have e2 : (UInt8.ofNat (48 + u)) = 48 := e
        rw [e2] at hc
        have : (48 : UInt8).toNat = 48 := rfl
        omega
    · rw [dif_neg h]
      obtain ⟨i1, i2, i3, i4, i5⟩ := ih (u / 10) (by rw [Nat.pow_succ] at hu; omega)
      have hc : (UInt8.ofNat (48 + u % 10)).toNat = 48 + u % 10 := by rw [UInt8.toNat_ofNat']; omega
      refine ⟨fun c hm => ?_, ?_, by simp, fun _ => by omega, fun h0 e => ?_⟩
      · rw [List.mem_append] at hm
        rcases hm with hm | hm
        · exact i1 c hm
        · simp only [List.mem_singleton] at hm
          subst hm
          omega
      · unfold dv at i2 ⊢
        rw [List.foldl_append, i2]
        show u / 10 * 10 + ((UInt8.ofNat (48 + u % 10)).toNat - 48) = u
        omega
      · apply i5 (by omega)
        cases hl : Lib.decDigits (u / 10) with
        | nil => rw [hl] at i3; simp at i3
        | cons a r => rw [hl] at e; exact e

theorem int_back (n : Int) (h0 : 0 ≤ n) (h1 : n ≤ 1000000000000) : DigP (intText n) ∧ NumP (intText n) ∧ (dv (intText n).data.toList : Int) = n := by
  obtain ⟨u, rfl⟩ := Int.eq_ofNat_of_zero_le h0
  have hu : u < 10 ^ 18 := by rw [show (10 : Nat) ^ 18 = 1000000000000000000 from by decide]; omega
  have e : intText (u : Int) = ⟨(Lib.decDigits u).toArray⟩ := by
    unfold intText
    rw [if_neg (by omega), dg_dec 18 u hu (by omega)]
  obtain ⟨i1, i2, i3, i4, i5⟩ := dec_back 18 u hu
  rw [e]
  have hs : (⟨(Lib.decDigits u).toArray⟩ : ByteArray).size = (Lib.decDigits u).length := by rw [Lib.size_eq]
  have hg : ∀ (j : Nat) (h : j < (⟨(Lib.decDigits u).toArray⟩ : ByteArray).size), (⟨(Lib.decDigits u).toArray⟩ : ByteArray)[j] = (Lib.decDigits u)[j]'(by rw [← hs]; exact h) := fun j h => rfl
  refine ⟨⟨by omega, fun j h => ?_⟩, ?_, by rw [i2]⟩
  · rw [hg j h, dgB_iff]
    have := i1 _ (List.getElem_mem (by rw [← hs]; exact h))
    omega
  · rintro ⟨h1, h2, h3⟩
    rw [hg 0 h2] at h3
    rw [hs] at h1
    have h4 := i4 h1
    apply i5 (by omega)
    cases hl : Lib.decDigits u with
    | nil => rw [hl] at i3; simp at i3
    | cons a r =>
      simp only [hl, List.getElem_cons_zero] at h3
      show a = 48
      apply UInt8.toNat_inj.1
      show a.toNat = 48
      omega

/-- A part whose bytes are of a kind, and the byte behind is a blank or none: a run. -/
theorem run_of {p : Int → Bool} {x r : ByteArray} {i e : Nat} (hie : i ≤ e) (he : e ≤ x.size) (hr : x.extract i e = r) (hp : ∀ (j : Nat) (h : j < r.size), p (r[j].toNat : Int) = true) (h32 : p 32 = false) (hz : ∀ h : e < x.size, (x[e].toNat : Int) = 32) : RunTo p x i e := by
  refine ⟨hie, he, fun j h h1 h2 => ?_, fun h => by rw [hz h]; exact h32⟩
  subst hr
  have hs := ex_size x i e he
  have h3 := hp (j - i) (by omega)
  rw [ex_at x i e (j - i) (by omega) (by omega)] at h3
  have e : i + (j - i) = j := by omega
  simp only [e] at h3
  exact h3

theorem first_of {x r : ByteArray} {i e : Nat} (he : e ≤ x.size) (hr : x.extract i e = r) (h0 : 0 < r.size) : ∃ h : i < x.size, x[i] = r[0] := by
  subst hr
  have hs := ex_size x i e he
  exact ⟨by omega, (ex_at x i e 0 h0 (by omega)).symm⟩

/-- A token's text, with a blank or nothing behind it, is read as the token. -/
theorem one_back {k n : Int} {s x : ByteArray} {i e : Nat} (h : TokP k n s) (hie : i ≤ e) (he : e ≤ x.size) (hr : x.extract i e = ttext k n s) (hz : ∀ h : e < x.size, (x[e].toNat : Int) = 32) :
    ∃ hi : i < x.size, ¬ Bl (x[i].toNat : Int) ∧ ¬ (x[i].toNat : Int) = 37 ∧ OneAt x i (k, n, s) e := by
  rcases h with ⟨rfl, ⟨h1, h2⟩, h3⟩ | ⟨rfl, h1, rfl⟩ | ⟨rfl, h1, rfl⟩ | ⟨rfl, h1, rfl⟩
  · have ht : ttext 1 n s = intText n := if_pos rfl
    rw [ht] at hr
    obtain ⟨g1, g2, g3⟩ := int_back n h1 h2
    obtain ⟨hi, hf⟩ := first_of he hr g1.1
    have hd : dgB (x[i].toNat : Int) = true := by rw [hf]; exact g1.2 0 g1.1
    have hrun := run_of hie he hr g1.2 (by decide) hz
    have hb := (dgB_iff _).1 hd
    have hse : s = ByteArray.empty := ByteArray.size_eq_zero_iff.1 h3
    refine ⟨hi, by unfold Bl; omega, by omega, hi, .inl ⟨hd, hrun, ?_, by rw [hr, g3]; exact h2, by rw [hr, g3, hse]⟩⟩
    rw [← num_iff hi he (hrun.lt hi hd), hr]
    exact g2
  · have ht : ttext 2 0 s = s := if_neg (by decide)
    rw [ht] at hr
    obtain ⟨g1, g2, g3⟩ := h1
    obtain ⟨hi, hf⟩ := first_of he hr g2
    have hd : smB (x[i].toNat : Int) = true := by
      rw [hf]
      rcases g1 0 g2 with h | h
      · simp only [smB, decide_eq_true_eq]; exact h
      · exact absurd rfl h.1
    have hrun : RunTo atB x i e := run_of hie he hr (fun j h => (atB_iff _).2 (by rcases g1 j h with h | h; exact .inl h; exact .inr h.2)) (by decide) hz
    have hb : 97 ≤ (x[i].toNat : Int) := by have := hd; simp only [smB, decide_eq_true_eq] at this; exact this.1
    have hsz := ex_size x i e he
    rw [hr] at hsz
    exact ⟨hi, by unfold Bl; omega, by omega, hi, .inr (.inl ⟨hd, hrun, by omega, by rw [hr]⟩)⟩
  · have ht : ttext 3 0 s = s := if_neg (by decide)
    rw [ht] at hr
    obtain ⟨g1, g2, g3⟩ := h1
    obtain ⟨hi, hf⟩ := first_of he hr g2
    have hd : lgB (x[i].toNat : Int) = true := by
      rw [hf]
      rcases g1 0 g2 with h | h
      · exact h
      · exact absurd rfl h.1
    have hrun : RunTo nmB x i e := run_of hie he hr (fun j h => (nmB_iff _).2 (by rcases g1 j h with h | h; exact .inl h; exact .inr h.2)) (by decide) hz
    have hb : 65 ≤ (x[i].toNat : Int) := by have := hd; simp only [lgB, Bool.or_eq_true, decide_eq_true_eq, beq_iff_eq] at this; omega
    have hsz := ex_size x i e he
    rw [hr] at hsz
    exact ⟨hi, by unfold Bl; omega, by omega, hi, .inr (.inr (.inl ⟨hd, hrun, by omega, by rw [hr]⟩))⟩
  · have ht : ttext 4 0 s = s := if_neg (by decide)
    rw [ht] at hr
    have hsz := ex_size x i e he
    have hg0 : 0 < s.size := by
      rw [Lib.size_eq]
      rcases h1 with h | h | ⟨c, _, h⟩ <;> rw [h] <;> simp
    obtain ⟨hi, hf⟩ := first_of he hr hg0
    have hdl : (x.extract i e).data.toList = (x.data.toList.drop i).take (e - i) := Lib.extract_data ..
    rw [hr] at hdl hsz
    have hnx : ∀ c, x.data.toList[e]? = some c → c = 32 := fun c hc => by
      obtain ⟨h5, h6⟩ := List.getElem?_eq_some_iff.1 hc
      have h7 : e < x.size := by rw [Lib.size_eq]; exact h5
      have h8 := hz h7
      have h9 : x[e] = c := h6
      rw [h9] at h8
      apply UInt8.toNat_inj.1
      show c.toNat = 32
      omega
    have hnd : ∀ c, (x.data.toList.drop i)[e - i]? = some c → c = 32 := fun c hc => by
      rw [List.getElem?_drop] at hc
      exact hnx c (by rw [← hc]; congr 1; omega)
    have hs0 : s.data.toList.head? = some s[0] := by
      rw [List.head?_eq_getElem?]
      exact List.getElem?_eq_getElem (by rw [← Lib.size_eq]; exact hg0)
    have hlen : s.data.toList.length = e - i := by rw [← Lib.size_eq]; exact hsz
    have key : mkn (x.data.toList.drop i) = ((e - i : Nat) : Int) ∧ s[0] ∈ ([40, 41, 123, 125, 91, 93, 44, 46, 59, 124, 60, 43, 45, 42, 61] : List UInt8) := by
      have hdec : x.data.toList.drop i = s.data.toList ++ (x.data.toList.drop i).drop (e - i) := by
        rw [hdl]; exact (List.take_append_drop _ _).symm
      generalize hL : (x.data.toList.drop i).drop (e - i) = L at hdec
      have hL0 : ∀ c, L[0]? = some c → c = 32 := fun c hc => by
        rw [← hL, List.getElem?_drop] at hc
        exact hnd c hc
      rw [hdec, ← hlen]
      rcases h1 with h | h | ⟨c, hc, h⟩
      · rw [h] at hs0 ⊢
        refine ⟨?_, ?_⟩
        · unfold mkn
          rw [if_pos (.inl ((pre2 _ _ _).2 ⟨L, rfl⟩))]
          rfl
        · have : s[0] = 45 := (Option.some.inj hs0).symm
          rw [this]; decide
      · rw [h] at hs0 ⊢
        refine ⟨?_, ?_⟩
        · unfold mkn
          rw [if_pos (.inr ((pre2 _ _ _).2 ⟨L, rfl⟩))]
          rfl
        · have : s[0] = 61 := (Option.some.inj hs0).symm
          rw [this]; decide
      · rw [h] at hs0 ⊢
        have hsc : s[0] = c := (Option.some.inj hs0).symm
        refine ⟨?_, ?_⟩
        · unfold mkn
          rw [if_neg, if_pos]
          · rfl
          · show ones.contains c = true
            simpa using hc
          · rw [pre2, pre2]
            rintro (⟨r, h⟩ | ⟨r, h⟩)
            · simp only [List.cons_append, List.nil_append, List.cons.injEq] at h
              have := hL0 62 (by rw [h.2]; rfl)
              exact absurd this (by decide)
            · simp only [List.cons_append, List.nil_append, List.cons.injEq] at h
              have := hL0 61 (by rw [h.2]; rfl)
              exact absurd this (by decide)
        · rw [hsc]
          have : ∀ c ∈ ones, c ∈ ([40, 41, 123, 125, 91, 93, 44, 46, 59, 124, 60, 43, 45, 42, 61] : List UInt8) := by decide
          exact this c hc
    have hcl : ∀ c ∈ ([40, 41, 123, 125, 91, 93, 44, 46, 59, 124, 60, 43, 45, 42, 61] : List UInt8), dgB (c.toNat : Int) = false ∧ smB (c.toNat : Int) = false ∧ lgB (c.toNat : Int) = false ∧ 37 < c.toNat := by decide
    obtain ⟨c1, c2, c3, c4⟩ := hcl _ key.2
    rw [← hf] at c1 c2 c3 c4
    have hei : 0 < e - i := by omega
    exact ⟨hi, by unfold Bl; omega, by omega, hi, .inr (.inr (.inr ⟨c1, c2, c3, by rw [key.1]; omega, by rw [key.1]; omega, by rw [hr]⟩))⟩

theorem acc_eq {s : ByteArray} {i : Nat} {l l' r : List Tok} {q : Int} (e : l = l') (h : LexR s i l r q) : LexR s i l' r q := e ▸ h

theorem ex_mid (a b c : ByteArray) : ((a ++ b) ++ c).extract a.size (a.size + b.size) = b := by
  apply ByteArray.ext
  apply Array.ext'
  rw [Lib.extract_data, ByteArray.data_append, ByteArray.data_append, Array.toList_append, Array.toList_append, Lib.size_eq a, Lib.size_eq b, List.append_assoc, List.drop_left, Nat.add_sub_cancel_left, List.take_left]

theorem get_mid (a c : ByteArray) (h : a.size < (a ++ c).size) (h0 : 0 < c.size) : (a ++ c)[a.size] = c[0] := by
  rw [ByteArray.getElem_append_right (Nat.le_refl _)]
  simp

/-- Tokens that are joined, with a blank or nothing behind them, are read back. -/
theorem join_back (ts : List Tk) (hok : ∀ t ∈ ts, TokP t.1 t.2.1 t.2.2) (h2 : ts.length ≤ 2000) : ∀ (j : Nat) (y z : ByteArray), j ≤ ts.length → JoinP ts j y → (∀ h : 0 < z.size, (z[0].toNat : Int) = 32) →
    ∀ r q, LexR (y ++ z) y.size (ts.take j) r q → LexR (y ++ z) 0 [] r q := by
  intro j
  induction j with
  | zero =>
    intro y z _ hy hz r q h
    have hy : y = ⟨#[]⟩ := hy
    subst hy
    exact h
  | succ j ih =>
    rintro y' z hj ⟨y, t, tk, e1, e2, e3, e4⟩ hz r q h
    have hmem : tk ∈ ts := List.mem_of_getElem? e1
    have hT := hok tk hmem
    have et : t = ttext tk.1 tk.2.1 tk.2.2 := by
      rcases e3 with ⟨_, e⟩ | ⟨e, _⟩
      · exact e
      · exact absurd hT e
    have htk : ts.take (j + 1) = ts.take j ++ [tk] := by rw [List.take_add_one, e1]; rfl
    have hln : ¬ (ts.take j).length = 2000 := by rw [List.length_take]; omega
    generalize hY : (if 0 < j then y ++ (⟨#[32]⟩ : ByteArray) else y) = Y at e4
    subst e4
    have hzz : ∀ h : Y.size + t.size < ((Y ++ t) ++ z).size, (((Y ++ t) ++ z)[Y.size + t.size].toNat : Int) = 32 := fun h => by
      have hs : (Y ++ t).size = Y.size + t.size := ByteArray.size_append
      have hs2 : ((Y ++ t) ++ z).size = (Y ++ t).size + z.size := ByteArray.size_append
      have h0 : 0 < z.size := by omega
      have := get_mid (Y ++ t) z (by omega) h0
      simp only [hs] at this
      rw [this]
      exact hz h0
    obtain ⟨hi, o1, o2, o3⟩ := one_back hT (Nat.le_add_right Y.size t.size) (by rw [ByteArray.size_append, ByteArray.size_append]; omega) (by rw [ex_mid, et]) hzz
    have hA : LexR ((Y ++ t) ++ z) Y.size (ts.take j) r q := by
      refine .tok Y.size (ts.take j) r q tk (Y.size + t.size) hi o1 o2 o3 hln ?_
      rw [← ByteArray.size_append]
      exact acc_eq htk h
    by_cases h0 : 0 < j
    · rw [if_pos h0] at hY
      subst hY
      have hxe : ((y ++ (⟨#[32]⟩ : ByteArray)) ++ t) ++ z = y ++ (((⟨#[32]⟩ : ByteArray) ++ t) ++ z) := by simp only [ByteArray.append_assoc]
      have h32s : ∀ (b : ByteArray) (h : 0 < ((⟨#[32]⟩ : ByteArray) ++ b).size), ((⟨#[32]⟩ : ByteArray) ++ b)[0] = 32 := fun b h => by
        rw [ByteArray.getElem_append_left (by decide)]; rfl
      rw [hxe] at hA ⊢
      refine ih y (((⟨#[32]⟩ : ByteArray) ++ t) ++ z) (by omega) e2 (fun h => ?_) r q ?_
      · simp only [ByteArray.append_assoc] at h ⊢
        rw [h32s]; rfl
      · have hs1 : (y ++ (⟨#[32]⟩ : ByteArray)).size = y.size + 1 := ByteArray.size_append
        rw [hs1] at hA
        have hs3 : (y ++ (((⟨#[32]⟩ : ByteArray) ++ t) ++ z)).size = y.size + ((((⟨#[32]⟩ : ByteArray) ++ t) ++ z)).size := ByteArray.size_append
        have hs4 : 0 < ((((⟨#[32]⟩ : ByteArray) ++ t) ++ z)).size := by
          rw [ByteArray.size_append, ByteArray.size_append]; show 0 < 1 + _ + _; omega
        refine .blank y.size (ts.take j) r q (by omega) (.inl ?_) hA
        rw [get_mid y _ (by omega) hs4]
        have : ∀ (b : ByteArray) (hb : b = ⟨#[32]⟩ ++ (t ++ z)) (h : 0 < b.size), (b[0].toNat : Int) = 32 := fun b hb h => by
          subst hb
          rw [h32s]; rfl
        exact this _ (ByteArray.append_assoc ..) hs4
    · rw [if_neg h0] at hY
      subst hY
      obtain rfl : j = 0 := by omega
      have e2 : y = ⟨#[]⟩ := e2
      subst e2
      exact hA

theorem lex_back (ts : List Tk) (hok : ∀ t ∈ ts, TokP t.1 t.2.1 t.2.2) (h2 : ts.length ≤ 2000) (x : ByteArray) (h : JoinP ts ts.length x) : LexR x 0 [] ts (-1) := by
  have := join_back ts hok h2 ts.length x ⟨#[]⟩ (Nat.le_refl _) h (fun h => absurd h (by decide)) ts (-1)
  have e : x ++ (⟨#[]⟩ : ByteArray) = x := ByteArray.append_empty
  rw [e] at this
  exact this (acc_eq (l := ts) (List.take_length (l := ts)).symm (.done _ _ (by omega)))

end Go.Proofs.YtickaplokjdijaaDoor
