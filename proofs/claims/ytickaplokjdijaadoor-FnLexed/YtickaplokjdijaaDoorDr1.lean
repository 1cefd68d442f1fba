/- The text of a token: the program's and the model's. -/
import Derived.Test.YtickaplokjdijaaDoorTk5
import Derived.Test.YtickaplokjdijaaDoorTText
import Derived.Test.YtickaplokjdijaaDoorShelf
import Derived.Lib.LaidTab
namespace Go.Proofs.YtickaplokjdijaaDoor
open Go.RowKit
set_option linter.unusedVariables false

/-- The table of the powers of ten lies as it was laid. -/
def TabOk (w : World) : Prop := Lib.TabIs Tryd.prog w "internal/strconv.uint64pow10" .u64 Lib.pow10Tab

theorem Tryd.pow10Is : (Tryd.prog.globalNamed "internal/strconv.uint64pow10").isSome = true := by kernel_rfl

theorem TabOk.later {w w' : World} (h : TabOk w) (hb : Below w.heap.size w w') : TabOk w' := by
  obtain ⟨g, hg⟩ := Option.isSome_iff_exists.1 Tryd.pow10Is
  unfold TabOk Lib.TabIs World.var? at h ⊢
  rw [hg] at h ⊢
  simp only [Option.bind_some] at h ⊢
  have hlt : g < w.heap.size := by
    rcases Nat.lt_or_ge g w.heap.size with h' | h'
    · exact h'
    · rw [Array.getElem?_eq_none h'] at h; cases h
  rw [hb.block g hlt]
  exact h

theorem dg_dec : ∀ (f : Nat) (u : Nat), u < 10 ^ f → 0 < f → dg f (u : Int) = ⟨(Lib.decDigits u).toArray⟩ := by
  intro f
  induction f with
  | zero => intro u _ h; omega
  | succ f ih =>
    intro u hu _
    rw [dg, Lib.decDigits]
    by_cases h : u < 10
    · rw [if_pos (by omega), dif_pos h]
      unfold strOfNums
      simp only [List.map_cons, List.map_nil]
      rw [show ((48 : Int) + (u : Int)).toNat = 48 + u from by omega]
    · rw [if_neg (by omega), dif_neg h]
      have h1 : (u : Int) / 10 = ((u / 10 : Nat) : Int) := by omega
      have h2 : (48 : Int) + (u : Int) % 10 = ((48 + u % 10 : Nat) : Int) := by omega
      have h3 : 0 < f := by
        cases f with
        | zero => simp at hu; omega
        | succ f => omega
      rw [h1, h2, ih (u / 10) (by rw [Nat.pow_succ] at hu; omega) h3]
      apply ByteArray.ext
      rw [ByteArray.data_append]
      show (Lib.decDigits (u / 10)).toArray ++ ((List.map (fun n : Int => UInt8.ofNat n.toNat) [((48 + u % 10 : Nat) : Int)]).toArray) = _
      rw [List.map_cons, List.map_nil, Int.toNat_natCast, List.append_toArray]

theorem itoa_text (n : Int) (h0 : -1000000000000 ≤ n) (h1 : n ≤ 1000000000000) : (⟨(Lib.itoa n).toArray⟩ : ByteArray) = intText n := by
  unfold Lib.itoa intText
  have hp : (10 : Nat) ^ 18 = 1000000000000000000 := by decide
  split
  · have h2 : -n = ((n.natAbs : Nat) : Int) := by omega
    rw [h2, dg_dec 18 n.natAbs (by rw [hp]; omega) (by omega)]
    apply ByteArray.ext
    rw [ByteArray.data_append]
    simp
  · have h2 : dg 18 n = dg 18 ((n.toNat : Nat) : Int) := by congr 1; omega
    rw [h2, dg_dec 18 n.toNat (by rw [hp]; omega) (by omega)]

theorem grow_below (w : World) (k : Nat) (os : Array Obj) : Below w.heap.size w (Sort.grow (w.drewN k) os) :=
  ⟨rfl, rfl, rfl, by show w.heap.size ≤ (w.heap ++ os).size; rw [Array.size_append]; omega, fun g hg => by show (w.heap ++ os)[g]? = _; rw [Array.getElem?_append_left hg]⟩

theorem itoa_any (n : Int) (w : World) (h0 : -1000000000000 ≤ n) (h1 : n ≤ 1000000000000) (ht : TabOk w) :
    Calls Tryd.prog 38 #[.int .i64 n] w fun e w' => e = .returned (.string (intText n)) ∧ Below w.heap.size w w' := by
  refine (Tryd.strconv_Itoa n (by omega) (by omega) w ht).mono ?_
  rintro e w' ⟨rfl, k, os, rfl⟩
  exact ⟨by rw [itoa_text n h0 h1], grow_below w k os⟩

/-- The text of a token. -/
def ttext (k n : Int) (s : ByteArray) : ByteArray := if k = 1 then intText n else s

/-- What TokenText hands back. -/
def TxtP (k n : Int) (s r : ByteArray) : Prop := (TokP k n s ∧ r = ttext k n s) ∨ (¬ TokP k n s ∧ r = ⟨#[]⟩)

theorem TxtP.same {k n : Int} {s r r' : ByteArray} (h : TxtP k n s r) (h' : TxtP k n s r') : r = r' := by
  rcases h with ⟨h1, rfl⟩ | ⟨h1, rfl⟩
  · rcases h' with ⟨_, rfl⟩ | ⟨h2, _⟩
    · rfl
    · exact absurd h1 h2
  · rcases h' with ⟨h2, _⟩ | ⟨_, rfl⟩
    · exact absurd h2 h1
    · rfl

set_option maxHeartbeats 1000000 in
theorem tokenText_any (k n : Int) (s : ByteArray) (w : World) (hs : s.size ≤ 9223372036854775807) (ht : TabOk w) :
    Calls Tryd.prog 13 #[.agg #[.int .i64 k, .int .i64 n, .string s]] w fun e w' => ∃ r, e = .returned (.string r) ∧ Hid (TxtP k n s r) ∧ Below w.heap.size w w' := by
  obtain ⟨W, hW⟩ : ∃ W, W = w.alloc (.cells #[.int .i64 k, .int .i64 n, .string s] 31) := ⟨_, rfl⟩
  have hA : Below w.heap.size w W := by rw [hW]; exact (Below.refl _ _).alloc (Nat.le_refl _) _
  have hB1 : W.heap[w.heap.size]? = some (.cells #[.int .i64 k, .int .i64 n, .string s] 31 (0, 0)) := by rw [hW]; exact heap_alloc_new w _
  have hC := tokenOk_any k n s W hs
  rw [hW] at hC
  have HW : Hid (W = _) := hW
  have HT : Hid (TabOk w) := ht
  have hWz : w.heap.size < W.heap.size := by rw [hW]; simp
  clear hW ht
  go_enter Tryd.func13, Tryd.ntmps13
  go_wp2_with fail
  refine hC.mono ?_
  clear hC
  rintro e w1 ⟨b, rfl, hb, h1⟩
  rw [← HW.out] at h1
  have hB2 := (h1.block _ hWz).trans hB1
  have hbw : Below w.heap.size w w1 := hA.trans (h1.mono hA.size)
  cases b
  · have HR : Hid (TxtP k n s ⟨#[]⟩) := .inr ⟨(fun h => by have := hb.2 h; cases this), rfl⟩
    clear hb HT HW hB1 hB2
    go_wp2_with fail
    go_ret
    exact ⟨_, rfl, HR, hbw⟩
  · have HP : Hid (TokP k n s) := hb.1 rfl
    have c0 : w1.cell? ⟨w.heap.size, 0, none⟩ = some (.int .i64 k) := by rw [cell_of_row w1 _ 0 _ _ _ hB2]; rfl
    have c1 : w1.cell? ⟨w.heap.size, 1, none⟩ = some (.int .i64 n) := by rw [cell_of_row w1 _ 1 _ _ _ hB2]; rfl
    have c2 : w1.cell? ⟨w.heap.size, 2, none⟩ = some (.string s) := by rw [cell_of_row w1 _ 2 _ _ _ hB2]; rfl
    clear hb HW hB1 hB2
    by_cases hk : k = 1
    · have HR : Hid (TxtP k n s (intText n)) := .inl ⟨HP.out, by unfold ttext; rw [if_pos hk]⟩
      have hn := HP.out
      subst hk
      rw [tokP1] at hn
      have hC := itoa_any n w1 (by omega) (by omega) (HT.out.later hbw)
      clear hn HP HT
      go_wp2_with fail
      refine hC.mono ?_
      clear hC
      rintro e w2 ⟨rfl, h2⟩
      have hb2 : Below w.heap.size w w2 := hbw.trans (h2.mono hbw.size)
      clear c0 c1 c2 hbw h2
      go_wp2_with fail
      go_ret
      exact ⟨_, rfl, HR, hb2⟩
    · have HR : Hid (TxtP k n s s) := .inl ⟨HP.out, by unfold ttext; rw [if_neg hk]⟩
      have hb1 : (k == 1) = false := by simp [hk]
      clear hk HP HT
      go_wp2_with fail
      go_ret
      exact ⟨_, rfl, HR, hbw⟩

set_option maxHeartbeats 1000000 in
theorem specL3Text_any (k n : Int) (s : ByteArray) (w : World) (h : TokP k n s) :
    Calls Tryd.prog 53 #[.agg #[.int .i64 k, .int .i64 n, .string s]] w fun e w' => e = .returned (.string (ttext k n s)) ∧ Below w.heap.size w w' := by
  have hA : Below w.heap.size w (w.alloc (.cells #[.int .i64 k, .int .i64 n, .string s] 31)) := (Below.refl _ _).alloc (Nat.le_refl _) _
  by_cases hk : k = 1
  · subst hk
    rw [tokP1] at h
    have hC := specInt_any n (w.alloc (.cells #[.int .i64 1, .int .i64 n, .string s] 31)) (by omega) (by omega)
    have ht : ttext 1 n s = intText n := rfl
    rw [ht]
    clear h ht
    go_enter Tryd.func53, Tryd.ntmps53
    go_wp2_with fail
    refine hC.mono ?_
    clear hC
    rintro e w' ⟨rfl, hb⟩
    have hb2 : Below w.heap.size w w' := hA.trans (hb.mono hA.size)
    clear hb hA
    go_wp2_with fail
    go_ret
    exact ⟨rfl, hb2⟩
  · have ht : ttext k n s = s := by unfold ttext; rw [if_neg hk]
    have hb1 : (k == 1) = false := by simp [hk]
    rw [ht]
    clear hk h ht
    go_enter Tryd.func53, Tryd.ntmps53
    go_wp2_with fail
    go_ret
    exact ⟨rfl, hA⟩

set_option maxHeartbeats 1000000 in
theorem specTokenText_any (k n : Int) (s : ByteArray) (w : World) (hs : s.size ≤ 9223372036854775807) :
    Calls Tryd.prog 23 #[.agg #[.int .i64 k, .int .i64 n, .string s]] w fun e w' => ∃ r, e = .returned (.string r) ∧ Hid (TxtP k n s r) ∧ Below w.heap.size w w' := by
  obtain ⟨W, hW⟩ : ∃ W, W = w.alloc (.cells #[.int .i64 k, .int .i64 n, .string s] 31) := ⟨_, rfl⟩
  have hA : Below w.heap.size w W := by rw [hW]; exact (Below.refl _ _).alloc (Nat.le_refl _) _
  have hB1 : W.heap[w.heap.size]? = some (.cells #[.int .i64 k, .int .i64 n, .string s] 31 (0, 0)) := by rw [hW]; exact heap_alloc_new w _
  have hC := specTokenOk_any k n s W hs
  rw [hW] at hC
  have HW : Hid (W = _) := hW
  have hWz : w.heap.size < W.heap.size := by rw [hW]; simp
  clear hW
  go_enter Tryd.func23, Tryd.ntmps23
  go_wp2_with fail
  refine hC.mono ?_
  clear hC
  rintro e w1 ⟨b, rfl, hb, h1⟩
  rw [← HW.out] at h1
  have hB2 := (h1.block _ hWz).trans hB1
  have hbw : Below w.heap.size w w1 := hA.trans (h1.mono hA.size)
  cases b
  · have HR : Hid (TxtP k n s ⟨#[]⟩) := .inr ⟨(fun h => by have := hb.2 h; cases this), rfl⟩
    clear hb HW hB1 hB2
    go_wp2_with fail
    go_ret
    exact ⟨_, rfl, HR, hbw⟩
  · have HP : Hid (TokP k n s) := hb.1 rfl
    have HR : Hid (TxtP k n s (ttext k n s)) := .inl ⟨HP.out, rfl⟩
    have hC := specL3Text_any k n s w1 HP.out
    generalize ttext k n s = r at hC HR
    have c0 : w1.cell? ⟨w.heap.size, 0, none⟩ = some (.int .i64 k) := by rw [cell_of_row w1 _ 0 _ _ _ hB2]; rfl
    have c1 : w1.cell? ⟨w.heap.size, 1, none⟩ = some (.int .i64 n) := by rw [cell_of_row w1 _ 1 _ _ _ hB2]; rfl
    have c2 : w1.cell? ⟨w.heap.size, 2, none⟩ = some (.string s) := by rw [cell_of_row w1 _ 2 _ _ _ hB2]; rfl
    clear hb HW hB1 hB2 HP
    go_wp2_with fail
    refine hC.mono ?_
    clear hC
    rintro e w2 ⟨rfl, h2⟩
    have hb2 : Below w.heap.size w w2 := hbw.trans (h2.mono hbw.size)
    clear c0 c1 c2 hbw h2
    go_wp2_with fail
    go_ret
    exact ⟨_, rfl, HR, hb2⟩

end Go.Proofs.YtickaplokjdijaaDoor
