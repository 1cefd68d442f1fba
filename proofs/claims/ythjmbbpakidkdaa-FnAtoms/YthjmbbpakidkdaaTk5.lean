/- Marks, the program's; and what a token is: the program's and the model's. -/
import Derived.Test.YthjmbbpakidkdaaTk4
namespace Go.Proofs.Ythjmbbpakidkdaa
open Go.RowKit
set_option linter.unusedVariables false

/-- How many bytes the mark has that a text begins with; 0: none. -/
def mkn (l : List UInt8) : Int := if Lib.hasPrefix l [45, 62] = true ∨ Lib.hasPrefix l [61, 61] = true then 2 else if ones.contains (l.headD 0) = true then 1 else 0

theorem pre2 (l : List UInt8) (a b : UInt8) : Lib.hasPrefix l [a, b] = true ↔ ∃ r, l = a :: b :: r := by
  unfold Lib.hasPrefix
  rw [List.isPrefixOf_iff_prefix]
  constructor
  · rintro ⟨r, rfl⟩; exact ⟨r, rfl⟩
  · rintro ⟨r, rfl⟩; exact ⟨r, rfl⟩

theorem mkn_range (l : List UInt8) : 0 ≤ mkn l ∧ mkn l ≤ 2 := by unfold mkn; split; omega; split <;> omega

theorem mkn_le (l : List UInt8) (h : l ≠ []) : mkn l ≤ l.length := by
  unfold mkn
  split
  · rename_i h1
    rw [pre2, pre2] at h1
    rcases h1 with ⟨r, rfl⟩ | ⟨r, rfl⟩ <;> simp <;> omega
  · split
    · cases l
      · exact absurd rfl h
      · simp; omega
    · omega

/-- What it is of the first bytes. -/
theorem markP_iff (s : ByteArray) (h : 0 < s.size) : MarkP s ↔ mkn s.data.toList = s.size := by
  unfold MarkP
  rw [Lib.size_eq] at h ⊢
  generalize s.data.toList = l at h ⊢
  match l, h with
  | [c], _ =>
    have e1 : ¬ (Lib.hasPrefix [c] [45, 62] = true ∨ Lib.hasPrefix [c] [61, 61] = true) := by
      rw [pre2, pre2]; rintro (⟨r, h⟩ | ⟨r, h⟩) <;> simp at h
    unfold mkn
    rw [if_neg e1]
    simp only [List.headD_cons, List.length_singleton, List.contains_iff_mem]
    constructor
    · rintro (h | h | ⟨d, hd, h⟩)
      · simp at h
      · simp at h
      · simp only [List.cons.injEq, and_true] at h
        subst h
        rw [if_pos hd]; rfl
    · intro h
      by_cases hc : c ∈ ones
      · exact .inr (.inr ⟨c, hc, rfl⟩)
      · rw [if_neg hc] at h; simp at h
  | [a, b], _ =>
    have e1 := pre2 [a, b] 45 62
    have e2 := pre2 [a, b] 61 61
    unfold mkn
    constructor
    · rintro (h | h | ⟨d, hd, h⟩)
      · rw [if_pos (.inl (e1.2 ⟨[], h⟩))]; rfl
      · rw [if_pos (.inr (e2.2 ⟨[], h⟩))]; rfl
      · simp at h
    · intro h
      by_cases hc : Lib.hasPrefix [a, b] [45, 62] = true ∨ Lib.hasPrefix [a, b] [61, 61] = true
      · rcases hc with hc | hc
        · obtain ⟨r, hr⟩ := e1.1 hc
          exact .inl (by simp only [List.cons.injEq] at hr ⊢; exact ⟨hr.1, hr.2.1, trivial⟩)
        · obtain ⟨r, hr⟩ := e2.1 hc
          exact .inr (.inl (by simp only [List.cons.injEq] at hr ⊢; exact ⟨hr.1, hr.2.1, trivial⟩))
      · rw [if_neg hc] at h
        split at h <;> simp at h
  | a :: b :: c :: r, _ =>
    constructor
    · rintro (h | h | ⟨d, hd, h⟩) <;> simp at h
    · intro h
      have := mkn_range (a :: b :: c :: r)
      simp at h
      omega

set_option maxHeartbeats 1000000 in
set_option maxRecDepth 100000 in
theorem markSize_any (s : ByteArray) (w : World) (h0 : 0 < s.size) :
    Calls Try.prog 160 #[.string s] w fun e w' => e = .returned (.int .i64 (mkn s.data.toList)) ∧ w = w' := by
  have hP1 := hasPrefix_any s ⟨#[45, 62]⟩ w
  have hP2 := hasPrefix_any s ⟨#[61, 61]⟩ w
  obtain ⟨x0, hx0⟩ : ∃ x, (s[0].toNat : Int) = x := ⟨_, rfl⟩
  have hI := indexByte_any ⟨#[40, 41, 123, 125, 91, 93, 44, 46, 59, 124, 60, 43, 45, 42]⟩ x0 w
  have e0 : x0.toNat.toUInt8 = s[0] := by rw [← hx0]; simp
  have e1 : s.data.toList.headD 0 = s[0] := by
    have : s.data.toList.head? = some s[0] := by
      rw [List.head?_eq_getElem?, List.getElem?_eq_getElem (by rw [← Lib.size_eq]; exact h0)]; rfl
    rw [List.headD_eq_head?_getD, this]; rfl
  have hc := Lib.contains_iff_indexByte ones s[0]
  rw [e0] at hI
  change Calls _ _ _ _ fun e w' => e = .returned (.int .i64 (Lib.indexByte ones s[0])) ∧ w = w' at hI
  generalize Lib.indexByte ones s[0] = q at hI hc
  unfold mkn
  rw [e1, hc]
  change Calls _ _ _ _ fun e w' => e = .returned (.bool (Lib.hasPrefix s.data.toList [45, 62])) ∧ w = w' at hP1
  change Calls _ _ _ _ fun e w' => e = .returned (.bool (Lib.hasPrefix s.data.toList [61, 61])) ∧ w = w' at hP2
  generalize Lib.hasPrefix s.data.toList [45, 62] = b1 at hP1 ⊢
  generalize Lib.hasPrefix s.data.toList [61, 61] = b2 at hP2 ⊢
  clear hc e0 e1
  cases b1
  · cases b2
    · rw [if_neg (by simp)]
      by_cases hq : 0 ≤ q
      · rw [if_pos (by simpa using hq)]
        go_enter Try.func160, Try.ntmps160
        go_wp2_with (first | (go_at_call 195; first | (refine hP1.mono ?_; rintro e w' ⟨rfl, rfl⟩) | (refine hP2.mono ?_; rintro e w' ⟨rfl, rfl⟩)) | (go_at_call 196; refine hI.mono ?_; rintro e w' ⟨rfl, rfl⟩))
        go_ret
        exact ⟨rfl, rfl⟩
      · rw [if_neg (by simpa using hq)]
        go_enter Try.func160, Try.ntmps160
        go_wp2_with (first | (go_at_call 195; first | (refine hP1.mono ?_; rintro e w' ⟨rfl, rfl⟩) | (refine hP2.mono ?_; rintro e w' ⟨rfl, rfl⟩)) | (go_at_call 196; refine hI.mono ?_; rintro e w' ⟨rfl, rfl⟩))
        go_ret
        exact ⟨rfl, rfl⟩
    · rw [if_pos (by simp)]
      go_enter Try.func160, Try.ntmps160
      go_wp2_with (first | (go_at_call 195; first | (refine hP1.mono ?_; rintro e w' ⟨rfl, rfl⟩) | (refine hP2.mono ?_; rintro e w' ⟨rfl, rfl⟩)))
      go_ret
      exact ⟨rfl, rfl⟩
  · rw [if_pos (by simp)]
    go_enter Try.func160, Try.ntmps160
    go_wp2_with (go_at_call 195; refine hP1.mono ?_; rintro e w' ⟨rfl, rfl⟩)
    go_ret
    exact ⟨rfl, rfl⟩

set_option maxHeartbeats 1000000 in
theorem markOk_any (s : ByteArray) (w : World) :
    Calls Try.prog 101 #[.string s] w fun e w' => ∃ b : Bool, e = .returned (.bool b) ∧ (b = true ↔ MarkP s) ∧ w = w' := by
  by_cases h0 : s.size = 0
  · have HF : Hid (¬ MarkP s) := fun h => by
      rw [Lib.size_eq] at h0
      rcases h with h | h | ⟨c, _, h⟩ <;> rw [h] at h0 <;> simp at h0
    have he := (empty_iff s).2 h0
    clear h0
    go_enter Try.func101, Try.ntmps101
    go_wp2_with fail
    go_ret
    exact ⟨false, rfl, iff_no HF.out, rfl⟩
  have he := empty_no h0
  have hL := markSize_any s w (by omega)
  have HM : Hid (MarkP s ↔ mkn s.data.toList = s.size) := markP_iff s (by omega)
  generalize mkn s.data.toList = q at hL HM
  have HB : Hid ((q == (s.size : Int)) = true ↔ MarkP s) := by show _ ↔ _; rw [HM.out, beq_iff_eq]
  clear HM h0
  go_enter Try.func101, Try.ntmps101
  go_wp2_with fail
  refine hL.mono ?_
  clear hL
  rintro e w' ⟨rfl, rfl⟩
  go_wp2_with fail
  go_ret
  exact ⟨_, rfl, HB.out, rfl⟩

/-- A token. -/
def TokP (k n : Int) (s : ByteArray) : Prop :=
  (k = 1 ∧ (0 ≤ n ∧ n ≤ 1000000000000) ∧ s.size = 0) ∨ (k = 2 ∧ AtomP s ∧ n = 0) ∨ (k = 3 ∧ NameP s ∧ n = 0) ∨ (k = 4 ∧ MarkP s ∧ n = 0)

theorem tokP1 (n : Int) (s : ByteArray) : TokP 1 n s ↔ (0 ≤ n ∧ n ≤ 1000000000000) ∧ s.size = 0 := by simp [TokP]
theorem tokP2 (n : Int) (s : ByteArray) : TokP 2 n s ↔ AtomP s ∧ n = 0 := by simp [TokP]
theorem tokP3 (n : Int) (s : ByteArray) : TokP 3 n s ↔ NameP s ∧ n = 0 := by simp [TokP]
theorem tokP4 (n : Int) (s : ByteArray) : TokP 4 n s ↔ MarkP s ∧ n = 0 := by simp [TokP]

/-- The contract of a check of a token. -/
def TokC (f : Nat) : Prop := ∀ (k n : Int) (s : ByteArray) (w : World), s.size ≤ 9223372036854775807 →
  Calls Try.prog f #[.agg #[.int .i64 k, .int .i64 n, .string s]] w fun e w' => ∃ b : Bool, e = .returned (.bool b) ∧ (b = true ↔ TokP k n s) ∧ Below w.heap.size w w'

theorem tok_alloc (w : World) (o : Obj) : Below w.heap.size w (w.alloc o) := (Below.refl _ _).alloc (Nat.le_refl _) _

set_option maxHeartbeats 1000000 in
theorem tokenOk_1 (n : Int) (s : ByteArray) (w : World) :
    Calls Try.prog 51 #[.agg #[.int .i64 1, .int .i64 n, .string s]] w fun e w' => ∃ b : Bool, e = .returned (.bool b) ∧ (b = true ↔ TokP 1 n s) ∧ Below w.heap.size w w' := by
  have HA := tok_alloc w (.cells #[.int .i64 1, .int .i64 n, .string s] 56)
  rw [tokP1]
  obtain ⟨P, hP⟩ : ∃ P, P = ((0 ≤ n ∧ n ≤ 1000000000000) ∧ s.size = 0) := ⟨_, rfl⟩
  rw [← hP]
  have HP : Hid (P = ((0 ≤ n ∧ n ≤ 1000000000000) ∧ s.size = 0)) := hP
  clear hP
  by_cases h1 : 0 ≤ n
  case neg =>
    have HF : Hid (¬ P) := fun h => by rw [HP.out] at h; exact h1 h.1.1
    go_enter Try.func51, Try.ntmps51
    go_wp2_with fail
    go_ret
    first | exact ⟨false, rfl, iff_no HF.out, HA⟩ | exact .inl ⟨rfl, HF.out, HA⟩
  by_cases h2 : n ≤ 1000000000000
  case neg =>
    have HF : Hid (¬ P) := fun h => by rw [HP.out] at h; exact h2 h.1.2
    go_enter Try.func51, Try.ntmps51
    go_wp2_with fail
    go_ret
    first | exact ⟨false, rfl, iff_no HF.out, HA⟩ | exact .inl ⟨rfl, HF.out, HA⟩
  by_cases h3 : s.size = 0
  · have HF : Hid P := by rw [HP.out]; exact ⟨⟨h1, h2⟩, h3⟩
    have he := (empty_iff s).2 h3
    clear h3
    go_enter Try.func51, Try.ntmps51
    go_wp2_with fail
    go_ret
    first | exact ⟨true, rfl, iff_yes HF.out, HA⟩ | exact .inr ⟨rfl, HF.out, HA⟩
  · have HF : Hid (¬ P) := fun h => by rw [HP.out] at h; exact h3 h.2
    have he := empty_no h3
    clear h3
    go_enter Try.func51, Try.ntmps51
    go_wp2_with fail
    go_ret
    first | exact ⟨false, rfl, iff_no HF.out, HA⟩ | exact .inl ⟨rfl, HF.out, HA⟩

set_option maxHeartbeats 1000000 in
theorem tokenOk_2 (n : Int) (s : ByteArray) (w : World) (hs : s.size ≤ 9223372036854775807) :
    Calls Try.prog 51 #[.agg #[.int .i64 2, .int .i64 n, .string s]] w fun e w' => ∃ b : Bool, e = .returned (.bool b) ∧ (b = true ↔ TokP 2 n s) ∧ Below w.heap.size w w' := by
  have HA := tok_alloc w (.cells #[.int .i64 2, .int .i64 n, .string s] 56)
  rw [tokP2]
  obtain ⟨P, hP⟩ : ∃ P, P = (AtomP s ∧ n = 0) := ⟨_, rfl⟩
  rw [← hP]
  have HP : Hid (P = (AtomP s ∧ n = 0)) := hP
  clear hP
  by_cases h1 : n = 0
  case neg =>
    have HF : Hid (¬ P) := fun h => by rw [HP.out] at h; exact h1 h.2
    go_enter Try.func51, Try.ntmps51
    go_wp2_with fail
    go_ret
    exact ⟨false, rfl, iff_no HF.out, HA⟩
  have HF : Hid (AtomP s ↔ P) := by show _ ↔ _; rw [HP.out]; exact ⟨fun h => ⟨h, h1⟩, fun h => h.1⟩
  clear HP
  subst h1
  go_enter Try.func51, Try.ntmps51
  go_wp2_with fail
  refine (atomOk_any s _ hs).mono ?_
  rintro e w' ⟨b, rfl, hb, rfl⟩
  have HB : Hid (b = true ↔ P) := hb.trans HF.out
  clear hb HF
  go_wp2_with fail
  go_ret
  exact ⟨b, rfl, HB.out, HA⟩

set_option maxHeartbeats 1000000 in
theorem tokenOk_3 (n : Int) (s : ByteArray) (w : World) (hs : s.size ≤ 9223372036854775807) :
    Calls Try.prog 51 #[.agg #[.int .i64 3, .int .i64 n, .string s]] w fun e w' => ∃ b : Bool, e = .returned (.bool b) ∧ (b = true ↔ TokP 3 n s) ∧ Below w.heap.size w w' := by
  have HA := tok_alloc w (.cells #[.int .i64 3, .int .i64 n, .string s] 56)
  rw [tokP3]
  obtain ⟨P, hP⟩ : ∃ P, P = (NameP s ∧ n = 0) := ⟨_, rfl⟩
  rw [← hP]
  have HP : Hid (P = (NameP s ∧ n = 0)) := hP
  clear hP
  by_cases h1 : n = 0
  case neg =>
    have HF : Hid (¬ P) := fun h => by rw [HP.out] at h; exact h1 h.2
    go_enter Try.func51, Try.ntmps51
    go_wp2_with fail
    go_ret
    exact ⟨false, rfl, iff_no HF.out, HA⟩
  have HF : Hid (NameP s ↔ P) := by show _ ↔ _; rw [HP.out]; exact ⟨fun h => ⟨h, h1⟩, fun h => h.1⟩
  clear HP
  subst h1
  go_enter Try.func51, Try.ntmps51
  go_wp2_with fail
  refine (nameOk_any s _ hs).mono ?_
  rintro e w' ⟨b, rfl, hb, rfl⟩
  have HB : Hid (b = true ↔ P) := hb.trans HF.out
  clear hb HF
  go_wp2_with fail
  go_ret
  exact ⟨b, rfl, HB.out, HA⟩

set_option maxHeartbeats 1000000 in
theorem tokenOk_4 (n : Int) (s : ByteArray) (w : World) (hs : s.size ≤ 9223372036854775807) :
    Calls Try.prog 51 #[.agg #[.int .i64 4, .int .i64 n, .string s]] w fun e w' => ∃ b : Bool, e = .returned (.bool b) ∧ (b = true ↔ TokP 4 n s) ∧ Below w.heap.size w w' := by
  have HA := tok_alloc w (.cells #[.int .i64 4, .int .i64 n, .string s] 56)
  rw [tokP4]
  obtain ⟨P, hP⟩ : ∃ P, P = (MarkP s ∧ n = 0) := ⟨_, rfl⟩
  rw [← hP]
  have HP : Hid (P = (MarkP s ∧ n = 0)) := hP
  clear hP
  by_cases h1 : n = 0
  case neg =>
    have HF : Hid (¬ P) := fun h => by rw [HP.out] at h; exact h1 h.2
    go_enter Try.func51, Try.ntmps51
    go_wp2_with fail
    go_ret
    exact ⟨false, rfl, iff_no HF.out, HA⟩
  have HF : Hid (MarkP s ↔ P) := by show _ ↔ _; rw [HP.out]; exact ⟨fun h => ⟨h, h1⟩, fun h => h.1⟩
  clear HP
  subst h1
  go_enter Try.func51, Try.ntmps51
  go_wp2_with fail
  refine (markOk_any s _).mono ?_
  rintro e w' ⟨b, rfl, hb, rfl⟩
  have HB : Hid (b = true ↔ P) := hb.trans HF.out
  clear hb HF
  go_wp2_with fail
  go_ret
  exact ⟨b, rfl, HB.out, HA⟩

set_option maxHeartbeats 1000000 in
theorem tokenOk_any : TokC 51 := by
  intro k n s w hs
  by_cases h1 : k = 1
  · subst h1; exact tokenOk_1 n s w
  by_cases h2 : k = 2
  · subst h2; exact tokenOk_2 n s w hs
  by_cases h3 : k = 3
  · subst h3; exact tokenOk_3 n s w hs
  by_cases h4 : k = 4
  · subst h4; exact tokenOk_4 n s w hs
  have HA := tok_alloc w (.cells #[.int .i64 k, .int .i64 n, .string s] 56)
  have HF : Hid (¬ TokP k n s) := fun h => by rcases h with h | h | h | h; exact h1 h.1; exact h2 h.1; exact h3 h.1; exact h4 h.1
  have b1 : (k == 1) = false := by simp [h1]
  have b2 : (k == 2) = false := by simp [h2]
  have b3 : (k == 3) = false := by simp [h3]
  have b4 : (k == 4) = false := by simp [h4]
  clear h1 h2 h3 h4
  go_enter Try.func51, Try.ntmps51
  go_wp2_with fail
  go_ret
  exact ⟨false, rfl, iff_no HF.out, HA⟩

end Go.Proofs.Ythjmbbpakidkdaa
