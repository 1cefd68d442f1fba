/- The token that begins at a place: there is one or there is none. -/
import Derived.Test.YtickaplokjdijaaDoorLx2
namespace Go.Proofs.YtickaplokjdijaaDoor
open Go.RowKit
set_option linter.unusedVariables false

theorem ex_size (s : ByteArray) (i e : Nat) (h : e ≤ s.size) : (s.extract i e).size = e - i := by
  rw [ByteArray.size_extract]; omega

theorem ex_at (s : ByteArray) (i e j : Nat) (h : j < (s.extract i e).size) (h2 : i + j < s.size) : (s.extract i e)[j] = s[i + j] := by
  exact ByteArray.getElem_extract ..

theorem excl (x : Int) : (dgB x = true → smB x = false ∧ lgB x = false) ∧ (smB x = true → dgB x = false ∧ lgB x = false) ∧ (lgB x = true → dgB x = false ∧ smB x = false) := by
  simp only [dgB, smB, lgB, Bool.or_eq_true, Bool.or_eq_false_iff, decide_eq_true_eq, decide_eq_false_iff_not, beq_iff_eq, beq_eq_false_iff_ne, ne_eq]
  omega

theorem RunTo.lt {p : Int → Bool} {s : ByteArray} {i e : Nat} (h : RunTo p s i e) (hi : i < s.size) (hp : p (s[i].toNat : Int) = true) : i < e := by
  obtain ⟨h1, h2, h3, h4⟩ := h
  refine Nat.lt_of_le_of_ne h1 fun he => ?_
  subst he
  rw [h4 hi] at hp
  cases hp

theorem RunTo.part {p : Int → Bool} {s : ByteArray} {i e : Nat} (h : RunTo p s i e) (j : Nat) (hj : j < (s.extract i e).size) : p ((s.extract i e)[j].toNat : Int) = true := by
  have hsz := ex_size s i e h.2.1
  have h2 : i + j < s.size := by have := h.2.1; omega
  rw [ex_at s i e j hj h2]
  exact h.2.2.1 (i + j) h2 (by omega) (by omega)

theorem run_dig {s : ByteArray} {i e : Nat} (hi : i < s.size) (hd : dgB (s[i].toNat : Int) = true) (h : RunTo dgB s i e) : DigP (s.extract i e) := by
  have := h.lt hi hd
  have hsz := ex_size s i e h.2.1
  exact ⟨by omega, fun j hj => h.part j hj⟩

theorem num_iff {s : ByteArray} {i e : Nat} (hi : i < s.size) (he : e ≤ s.size) (hl : i < e) : NumP (s.extract i e) ↔ ¬ (1 < e - i ∧ (s[i].toNat : Int) = 48) := by
  have hsz := ex_size s i e he
  unfold NumP
  constructor
  · rintro h ⟨h1, h2⟩
    exact h ⟨by omega, by omega, by rw [ex_at s i e 0 (by omega) (by omega)]; exact h2⟩
  · rintro h ⟨h1, h0, h2⟩
    rw [ex_at s i e 0 (by omega) (by omega)] at h2
    exact h ⟨by omega, h2⟩

theorem one_dig {s : ByteArray} {i e : Nat} (hi : i < s.size) (hd : dgB (s[i].toNat : Int) = true) (h : RunTo dgB s i e) :
    ((dv (s.extract i e).data.toList : Int) ≤ 1000000000000 ∧ NumP (s.extract i e) → OneAt s i ((1 : Int), (dv (s.extract i e).data.toList : Int), ByteArray.empty) e) ∧
    (¬ ((dv (s.extract i e).data.toList : Int) ≤ 1000000000000 ∧ NumP (s.extract i e)) → ¬ ∃ t e', OneAt s i t e') := by
  have hl := h.lt hi hd
  have hx := (excl (s[i].toNat : Int)).1 hd
  constructor
  · rintro ⟨h1, h2⟩
    exact ⟨hi, .inl ⟨hd, h, (num_iff hi h.2.1 hl).1 h2, h1, rfl⟩⟩
  · rintro hn ⟨t, e', hi', h1 | h1 | h1 | h1⟩
    · obtain ⟨_, g2, g3, g4, _⟩ := h1
      obtain rfl := h.unique g2
      exact hn ⟨g4, (num_iff hi h.2.1 hl).2 g3⟩
    · rw [hx.1] at h1; cases h1.1
    · rw [hx.2] at h1; cases h1.1
    · rw [hd] at h1; cases h1.1

theorem atom_iff {s : ByteArray} {i e : Nat} (hi : i < s.size) (hd : smB (s[i].toNat : Int) = true) (h : RunTo atB s i e) : AtomP (s.extract i e) ↔ e - i ≤ 20 := by
  have hsz := ex_size s i e h.2.1
  have hat : atB (s[i].toNat : Int) = true := (atB_iff _).2 (.inl (by simpa [smB] using hd))
  have hl := h.lt hi hat
  constructor
  · intro ha
    have := ha.2.2
    omega
  · intro h20
    refine ⟨fun j hj => ?_, by omega, by omega⟩
    by_cases hj0 : j = 0
    · subst hj0
      rw [ex_at s i e 0 hj (by omega)]
      exact .inl (by simpa [smB] using hd)
    · rcases (atB_iff _).1 (h.part j hj) with g | g
      · exact .inl g
      · exact .inr ⟨hj0, g⟩

theorem one_sm {s : ByteArray} {i e : Nat} (hi : i < s.size) (hd : smB (s[i].toNat : Int) = true) (h : RunTo atB s i e) :
    (AtomP (s.extract i e) → OneAt s i ((2 : Int), (0 : Int), s.extract i e) e) ∧ (¬ AtomP (s.extract i e) → ¬ ∃ t e', OneAt s i t e') := by
  have hx := (excl (s[i].toNat : Int)).2.1 hd
  rw [atom_iff hi hd h]
  constructor
  · intro h1
    exact ⟨hi, .inr (.inl ⟨hd, h, h1, rfl⟩)⟩
  · rintro hn ⟨t, e', hi', h1 | h1 | h1 | h1⟩
    · rw [hx.1] at h1; cases h1.1
    · obtain ⟨_, g2, g3, _⟩ := h1
      obtain rfl := h.unique g2
      exact hn g3
    · rw [hx.2] at h1; cases h1.1
    · rw [hd] at h1; cases h1.2.1

theorem name_iff {s : ByteArray} {i e : Nat} (hi : i < s.size) (hd : lgB (s[i].toNat : Int) = true) (h : RunTo nmB s i e) : NameP (s.extract i e) ↔ e - i ≤ 20 := by
  have hsz := ex_size s i e h.2.1
  have hat : nmB (s[i].toNat : Int) = true := (nmB_iff _).2 (.inl hd)
  have hl := h.lt hi hat
  constructor
  · intro ha
    have := ha.2.2
    omega
  · intro h20
    refine ⟨fun j hj => ?_, by omega, by omega⟩
    by_cases hj0 : j = 0
    · subst hj0
      rw [ex_at s i e 0 hj (by omega)]
      exact .inl hd
    · rcases (nmB_iff _).1 (h.part j hj) with g | g
      · exact .inl g
      · exact .inr ⟨hj0, g⟩

theorem one_lg {s : ByteArray} {i e : Nat} (hi : i < s.size) (hd : lgB (s[i].toNat : Int) = true) (h : RunTo nmB s i e) :
    (NameP (s.extract i e) → OneAt s i ((3 : Int), (0 : Int), s.extract i e) e) ∧ (¬ NameP (s.extract i e) → ¬ ∃ t e', OneAt s i t e') := by
  have hx := (excl (s[i].toNat : Int)).2.2 hd
  rw [name_iff hi hd h]
  constructor
  · intro h1
    exact ⟨hi, .inr (.inr (.inl ⟨hd, h, h1, rfl⟩))⟩
  · rintro hn ⟨t, e', hi', h1 | h1 | h1 | h1⟩
    · rw [hx.1] at h1; cases h1.1
    · rw [hx.2] at h1; cases h1.1
    · obtain ⟨_, g2, g3, _⟩ := h1
      obtain rfl := h.unique g2
      exact hn g3
    · rw [hd] at h1; cases h1.2.2.1

theorem one_mk {s : ByteArray} {i : Nat} (hi : i < s.size) (h1 : dgB (s[i].toNat : Int) = false) (h2 : smB (s[i].toNat : Int) = false) (h3 : lgB (s[i].toNat : Int) = false) :
    (∀ e : Nat, 0 < mkn (s.data.toList.drop i) → (e : Int) = i + mkn (s.data.toList.drop i) → OneAt s i ((4 : Int), (0 : Int), s.extract i e) e) ∧ (¬ 0 < mkn (s.data.toList.drop i) → ¬ ∃ t e', OneAt s i t e') := by
  constructor
  · intro e h4 h5
    exact ⟨hi, .inr (.inr (.inr ⟨h1, h2, h3, h4, h5, rfl⟩))⟩
  · rintro hn ⟨t, e', hi', g | g | g | g⟩
    · rw [h1] at g; cases g.1
    · rw [h2] at g; cases g.1
    · rw [h3] at g; cases g.1
    · exact hn g.2.2.2.1

theorem drop_ne {s : ByteArray} {i : Nat} (hi : i < s.size) : s.data.toList.drop i ≠ [] := fun h => by
  have := congrArg List.length h
  rw [List.length_drop, ← Lib.size_eq] at this
  simp at this
  omega

theorem OneAt.lt {s : ByteArray} {i e : Nat} {t : Tok} (h : OneAt s i t e) : i < e ∧ e ≤ s.size := by
  obtain ⟨hi, h | h | h | h⟩ := h
  · exact ⟨h.2.1.lt hi h.1, h.2.1.2.1⟩
  · exact ⟨h.2.1.lt hi ((atB_iff _).2 (.inl (by simpa [smB] using h.1))), h.2.1.2.1⟩
  · exact ⟨h.2.1.lt hi ((nmB_iff _).2 (.inl h.1)), h.2.1.2.1⟩
  · obtain ⟨_, _, _, h4, h5, _⟩ := h
    have := mkn_le _ (drop_ne hi)
    rw [List.length_drop, ← Lib.size_eq] at this
    omega

/-- A mark at a place has its bytes. -/
theorem mark_iff {s : ByteArray} {i m : Nat} (hi : i < s.size) (hm : (m : Int) = mkn (s.data.toList.drop i)) : 0 < m ↔ MarkP (s.extract i (i + m)) := by
  have hd : (s.extract i (i + m)).data.toList = (s.data.toList.drop i).take m := by rw [Lib.extract_data, Nat.add_sub_cancel_left]
  have hne := drop_ne hi
  have hle := mkn_le _ hne
  unfold MarkP
  rw [hd]
  generalize s.data.toList.drop i = l at hm hne hle ⊢
  unfold mkn at hm
  split at hm
  · rename_i h
    have e : m = 2 := by omega
    subst e
    refine ⟨fun _ => ?_, fun _ => by omega⟩
    rcases h with h | h
    · obtain ⟨r, rfl⟩ := (pre2 _ _ _).1 h; exact .inl rfl
    · obtain ⟨r, rfl⟩ := (pre2 _ _ _).1 h; exact .inr (.inl rfl)
  · split at hm
    · rename_i h
      have e : m = 1 := by omega
      subst e
      refine ⟨fun _ => ?_, fun _ => by omega⟩
      cases l with
      | nil => exact absurd rfl hne
      | cons c r => exact .inr (.inr ⟨c, by simpa using h, rfl⟩)
    · have e : m = 0 := by omega
      subst e
      refine ⟨fun h => absurd h (by omega), fun h => ?_⟩
      rcases h with h | h | ⟨c, _, h⟩ <;> simp at h

/-- What a reading of one token answers. -/
def OneR (s : ByteArray) (i : Nat) (k n : Int) (S : ByteArray) (e : Nat) : Prop :=
  (TokP k n S → OneAt s i ((k, n, S) : Int × Int × ByteArray) e) ∧ (¬ TokP k n S → ¬ ∃ t e', OneAt s i t e')

theorem oneR_sm {s : ByteArray} {i e : Nat} (hi : i < s.size) (hd : smB (s[i].toNat : Int) = true) (h : RunTo atB s i e) : OneR s i 2 0 (s.extract i e) e := by
  obtain ⟨h1, h2⟩ := one_sm hi hd h
  unfold OneR
  rw [tokP2]
  exact ⟨fun g => h1 g.1, fun g => h2 fun a => g ⟨a, rfl⟩⟩

theorem oneR_lg {s : ByteArray} {i e : Nat} (hi : i < s.size) (hd : lgB (s[i].toNat : Int) = true) (h : RunTo nmB s i e) : OneR s i 3 0 (s.extract i e) e := by
  obtain ⟨h1, h2⟩ := one_lg hi hd h
  unfold OneR
  rw [tokP3]
  exact ⟨fun g => h1 g.1, fun g => h2 fun a => g ⟨a, rfl⟩⟩

theorem oneR_mk {s : ByteArray} {i m : Nat} (hi : i < s.size) (g1 : dgB (s[i].toNat : Int) = false) (g2 : smB (s[i].toNat : Int) = false) (g3 : lgB (s[i].toNat : Int) = false) (hm : (m : Int) = mkn (s.data.toList.drop i)) : OneR s i 4 0 (s.extract i (i + m)) (i + m) := by
  obtain ⟨h1, h2⟩ := one_mk hi g1 g2 g3
  unfold OneR
  rw [tokP4, ← mark_iff hi hm]
  exact ⟨fun g => h1 (i + m) (by omega) (by omega), fun g => h2 fun a => g ⟨by omega, rfl⟩⟩

theorem oneR_dig {s : ByteArray} {i e : Nat} (hi : i < s.size) (hd : dgB (s[i].toNat : Int) = true) (h : RunTo dgB s i e) {n : Int} (ha : NumAns (s.extract i e) n) : OneR s i 1 n ByteArray.empty e := by
  obtain ⟨h1, h2⟩ := one_dig hi hd h
  have hD := run_dig hi hd h
  unfold OneR
  rw [tokP1]
  rcases ha with ⟨rfl, h3, h4⟩ | ⟨rfl, h3⟩
  · exact ⟨fun g => h1 ⟨g.1.2, h4⟩, fun g => h2 fun a => g ⟨⟨by omega, a.1⟩, rfl⟩⟩
  · exact ⟨fun g => by omega, fun _ => h2 fun a => h3 ⟨num_short hD a.2 (by omega), a.2⟩⟩

theorem oneR_dig2 {s : ByteArray} {i e : Nat} (hi : i < s.size) (hd : dgB (s[i].toNat : Int) = true) (h : RunTo dgB s i e) {k n : Int} (ha : NumTok (s.extract i e) k n) : OneR s i k n ByteArray.empty e := by
  obtain ⟨h1, h2⟩ := one_dig hi hd h
  rcases ha with ⟨rfl, rfl, h3, h4⟩ | ⟨rfl, rfl, h3⟩
  · unfold OneR
    rw [tokP1]
    exact ⟨fun g => h1 ⟨g.1.2, h4⟩, fun g => absurd ⟨⟨by omega, h3⟩, rfl⟩ g⟩
  · exact ⟨fun g => by rcases g with g | g | g | g <;> simp at g, fun _ => h2 h3⟩

end Go.Proofs.YtickaplokjdijaaDoor
