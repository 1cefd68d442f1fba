/- The model's Lex: the tokens of a text, in new memory. -/
import Derived.Test.YtickaplokjdijaaDoorLx6
namespace Go.Proofs.YtickaplokjdijaaDoor
open Go.RowKit
set_option linter.unusedVariables false

theorem Tryd.infoToken : (Tryd.prog.info? 31).map (fun i => (i.zero, i.size, i.bytes)) = some (some (.agg #[.int .i64 0, .int .i64 0, .string ⟨#[]⟩]), 3, 32) := by kernel_rfl

/-- The cells of some tokens. -/
def tokCells : List Tok → List Value
  | [] => []
  | t :: r => .int .i64 t.1 :: .int .i64 t.2.1 :: .string t.2.2 :: tokCells r

/-- A token of its three fields. -/
def tk3 (k n : Int) (S : ByteArray) : Tok := (k, n, S)

theorem tokCells_snoc (ts : List Tok) (k n : Int) (S : ByteArray) : tokCells (ts ++ [tk3 k n S]) = tokCells ts ++ [.int .i64 k, .int .i64 n, .string S] := by
  induction ts with
  | nil => rfl
  | cons t r ih => simp [tokCells, ih]

theorem tok_shape {w : World} {B n e z : Nat} {v : Value} {xs : List Value} (h : w.ownsRow B e z v n xs) : ∃ a c, v = .slice a n c := by
  rcases h.2 with ⟨h1, h2⟩ | ⟨g, c, cur, e1, _⟩
  · exact ⟨none, 0, by rw [h1, h2]⟩
  · exact ⟨_, _, e1⟩

/-- What Lex hands back. -/
def LexP (s : ByteArray) (w : World) (e : Ending) (w' : World) : Prop :=
  ∃ (a : Option Addr) (c : Nat) (q : Int) (ts : List Tok), e = .returned (.tuple #[.slice a ts.length c, .int .i64 q]) ∧ w'.ownsRow w.heap.size 31 3 (.slice a ts.length c) ts.length (tokCells ts) ∧ LexR s 0 [] ts q ∧ ts.length ≤ 2000 ∧ Below w.heap.size w w'

/-- Where the reading stands. -/
def LexAt (s : ByteArray) (i : Nat) (ts : List Tok) : Prop := ∀ r q, LexR s i ts r q → LexR s 0 [] r q

theorem ownsRow_kept {w w' : World} {B n e z : Nat} {v : Value} {xs : List Value} (h : w.ownsRow B e z v n xs) (hb : Below w.heap.size w w') : w'.ownsRow B e z v n xs := by
  obtain ⟨h1, h2⟩ := h
  refine ⟨h1, ?_⟩
  rcases h2 with h2 | ⟨g, c, cur, e1, e2, e3, e4⟩
  · exact .inl h2
  · exact .inr ⟨g, c, cur, e1, e2, (hb.block g ((Array.getElem?_eq_some_iff.1 e3).1)).trans e3, e4⟩

theorem row_above {w : World} {B n e z : Nat} {v : Value} {xs : List Value} (h : w.ownsRow B e z v n xs) : ∀ g, v.ownBlock = some g → B ≤ g := by
  intro g hg
  rcases h.2 with ⟨h1, _⟩ | ⟨g', c, cur, e1, e2, _⟩
  · rw [h1] at hg; cases hg
  · rw [e1] at hg
    obtain rfl : g' = g := by simpa [Value.ownBlock] using hg
    exact e2

theorem three_new (w : World) (a b c : Value) (T : TypeId) (j : Nat) (u : Value) (h : [a, b, c][j]? = some u) : (w.alloc (.cells #[a, b, c] T)).cell? ((⟨w.heap.size, 0, none⟩ : Addr).add j) = some u := by
  rw [Addr.add_lit, Nat.zero_add, cell_of_row _ _ j _ _ _ (heap_alloc_new w _)]
  simpa using h

set_option maxHeartbeats 4000000 in
set_option maxRecDepth 100000 in
theorem specLex_any (s : ByteArray) (w : World) (hs : s.size ≤ 1048576) : Calls Tryd.prog 16 #[.string s] w (LexP s w) := by
  obtain ⟨i0, hi, hz0, hz1, hz2⟩ := info_parts Tryd.infoToken
  have hlit : (w.alloc (.cells #[] 31)).ownsRow w.heap.size 31 3 (.slice (some ⟨w.heap.size, 0, none⟩) 0 0) 0 [] := World.ownsRow_lit w #[] 0 (Nat.le_refl _) (Nat.zero_le _) rfl
  have hA : Below w.heap.size w (w.alloc (.cells #[] 31)) := (Below.refl _ _).alloc (Nat.le_refl _) _
  have hP := specPass_any s 0 (w.alloc (.cells #[] 31)) (Nat.zero_le _) (by omega)
  go_enter Tryd.func16, Tryd.ntmps16
  go_wp2_with fail
  refine hP.mono ?_
  clear hP
  rintro e w' ⟨j0, rfl, hp0, rfl⟩
  have HP0 : Hid (PassTo s 0 j0) := hp0
  clear hp0
  go_wp2_with fail
  go_loopw [4, 5] (fun o i wr => ∃ (k : Nat) (ts : List Tok), k ≤ s.size ∧ i = .int .i64 k ∧ ts.length ≤ 2000 ∧ wr.ownsRow w.heap.size 31 3 o ts.length (tokCells ts) ∧ Below w.heap.size w wr ∧ Hid (LexAt s k ts ∧ ∀ h : k < s.size, ¬ Bl (s[k].toNat : Int) ∧ ¬ (s[k].toNat : Int) = 37)) (fun _ i _ => s.size - (intOf i).toNat)
  case atStart => exact ⟨j0, [], HP0.out.2.2.1, rfl, by simp, hlit, hA, fun r q h => HP0.out.1 _ r q h, HP0.out.2.2.2⟩
  case round =>
    obtain ⟨k, ts, hk, rfl, hl, hown, hb, HL⟩ := hrel
    obtain ⟨a, c, rfl⟩ := tok_shape hown
    by_cases hlt : k < s.size
    · have hO := specOne_any s k wr hlt (by omega)
      go_wp2_with fail
      refine hO.mono ?_
      clear hO
      rintro e w1 ⟨tk, tn, S, q, rfl, hor, hq1, hq2, hS, hb1⟩
      have HOR : Hid (OneR s k tk tn S q) := hor
      have hown1 := ownsRow_kept hown hb1
      have hbw1 : Below w.heap.size w w1 := hb.trans (hb1.mono hb.size)
      clear hor hown hb1 hb
      obtain ⟨w2, hw2⟩ : ∃ w2, w2 = w1.alloc (.cells #[.int .i64 tk, .int .i64 tn, .string S] 31) := ⟨_, rfl⟩
      have h12 : Below w1.heap.size w1 w2 := by rw [hw2]; exact (Below.refl _ _).alloc (Nat.le_refl _) _
      have hz2' : w2.heap.size = w1.heap.size + 1 := by rw [hw2]; simp
      have ht2 : w2.heap[w1.heap.size]? = some (.cells #[.int .i64 tk, .int .i64 tn, .string S] 31 (0, 0)) := by rw [hw2]; exact heap_alloc_new w1 _
      have hC := specTokenOk_any tk tn S w2 (by omega)
      rw [hw2] at hC
      have HW2 : Hid (w2 = _) := hw2
      clear hw2
      go_wp2_with fail
      refine hC.mono ?_
      clear hC
      rintro e w3 ⟨b, rfl, hbt, h23⟩
      rw [← HW2.out] at h23
      have ht3 := (h23.block _ (by omega)).trans ht2
      have hown3 := ownsRow_kept (ownsRow_kept hown1 h12) h23
      have hbw3 : Below w.heap.size w w3 := (hbw1.trans (h12.mono hbw1.size)).trans (h23.mono (Nat.le_trans hbw1.size h12.size))
      have hz3 : w1.heap.size < w3.heap.size := by have := h23.size; omega
      clear h12 h23 ht2 hown1 hbw1 HW2 hz2'
      have HSTOP : Hid ((¬ (∃ t e, OneAt s k t e) ∨ ts.length = 2000) → LexR s 0 [] [] k) := fun h => HL.out.1 _ _ (.stop k ts hlt (HL.out.2 hlt).1 (HL.out.2 hlt).2 h)
      cases b
      · have HR : Hid (LexR s 0 [] [] k) := HSTOP.out (.inl (HOR.out.2 fun h => by have := hbt.2 h; cases this))
        clear HSTOP hbt HOR HL
        go_wp2_with fail
        refine bodyPost_ret (v := .tuple #[.slice (some ⟨w3.heap.size, 0, none⟩) 0 0, .int .i64 k]) (by first | (simp [results, Tryd.results16, go_sem]; done) | (simp [results, Tryd.results16, go_sem]; rfl)) rfl ⟨_, 0, k, [], rfl, ?_, HR.out, by simp, ?_⟩
        · exact World.ownsRow_lit w3 #[] 0 hbw3.size (Nat.zero_le _) rfl
        · exact hbw3.alloc hbw3.size _
      · by_cases hfull : ts.length = 2000
        · have HR : Hid (LexR s 0 [] [] k) := HSTOP.out (.inr hfull)
          have hbf : ((ts.length : Int) == 2000) = true := by rw [hfull]; rfl
          clear HSTOP hbt HOR HL hfull
          go_wp2_with fail
          refine bodyPost_ret (v := .tuple #[.slice (some ⟨w3.heap.size, 0, none⟩) 0 0, .int .i64 k]) (by first | (simp [results, Tryd.results16, go_sem]; done) | (simp [results, Tryd.results16, go_sem]; rfl)) rfl ⟨_, 0, k, [], rfl, ?_, HR.out, by simp, ?_⟩
          · exact World.ownsRow_lit w3 #[] 0 hbw3.size (Nat.zero_le _) rfl
          · exact hbw3.alloc hbw3.size _
        · have hbf : ((ts.length : Int) == 2000) = false := by simp; omega
          have HNX : Hid (LexAt s q (ts ++ [tk3 tk tn S])) := fun r z h => HL.out.1 _ _ (.tok k ts r z _ q hlt (HL.out.2 hlt).1 (HL.out.2 hlt).2 (HOR.out.1 (hbt.1 rfl)) hfull h)
          have t0 : w3.cell? ⟨w1.heap.size, 0, none⟩ = some (.int .i64 tk) := by rw [cell_of_row w3 _ 0 _ _ _ ht3]; rfl
          have t1 : w3.cell? ⟨w1.heap.size, 1, none⟩ = some (.int .i64 tn) := by rw [cell_of_row w3 _ 1 _ _ _ ht3]; rfl
          have t2 : w3.cell? ⟨w1.heap.size, 2, none⟩ = some (.string S) := by rw [cell_of_row w3 _ 2 _ _ _ ht3]; rfl
          clear HSTOP hbt HOR HL ht3
          have hown4 := ownsRow_kept hown3 ((Below.refl _ w3).alloc (Nat.le_refl _) (.cells #[.int .i64 tk, .int .i64 tn, .string S] 31))
          have HC : Hid (tokCells ts ++ [.int .i64 tk, .int .i64 tn, .string S] = tokCells (ts ++ [tk3 tk tn S])) := (tokCells_snoc ts tk tn S).symm
          have HOB : Hid (∀ g, (Value.slice a ts.length c).ownBlock = some g → w.heap.size ≤ g) := row_above hown3
          obtain ⟨cs, hcs⟩ : ∃ cs, tokCells ts = cs := ⟨_, rfl⟩
          obtain ⟨n, hn⟩ : ∃ n, ts.length = n := ⟨_, rfl⟩
          have HLN : Hid (ts.length = n) := hn
          rw [hcs] at hown4 HC
          rw [hn] at hown4 hl hbf HOB ⊢
          clear hcs hown3 hfull hn
          go_wp2_with (at_builtin; refine wpList_append_own _ rfl (.tmp 31) (.tmp 33) 24 rfl w.heap.size 31 i0 (.agg #[.int .i64 0, .int .i64 0, .string ⟨#[]⟩]) 3 32 Tryd.underlying24 hi hz0 hz1 hz2 rfl (by decide) _ _ _ rfl hown4 ⟨w3.heap.size, 0, none⟩ 1 1 [.int .i64 tk, .int .i64 tn, .string S] rfl rfl (three_new w3 _ _ _ _) (by intro u hu; simp at hu; rcases hu with rfl | rfl | rfl <;> rfl) (by unfold maxLen; omega) (by omega) (by simp; have := hbw3.size; omega) ?_)
          intro v' w5 hown5 hgr5 _
          have hb5 : Below w.heap.size w w5 := (hbw3.alloc hbw3.size _).grown hgr5 (by simp; have := hbw3.size; omega) (fun g hg => HOB.out g hg)
          have hlen : (ts ++ [tk3 tk tn S]).length = n + 1 := by rw [List.length_append, HLN.out]; rfl
          rw [HC.out, ← hlen] at hown5
          have HOW : Hid (w5.ownsRow w.heap.size 31 3 v' (ts ++ [tk3 tk tn S]).length (tokCells (ts ++ [tk3 tk tn S]))) := hown5
          have hl5 : (ts ++ [tk3 tk tn S]).length ≤ 2000 := by
            have : ¬ (n : Int) = 2000 := by simpa using hbf
            omega
          have HLL : Hid ((ts ++ [tk3 tk tn S]).length ≤ 2000) := hl5
          have hPS := specPass_any s q w5 hq1 (by omega)
          clear hown5 hgr5 hown4 HC HOB hlen hl5 t0 t1 t2 HLN hbf
          go_wp2_with fail
          refine hPS.mono ?_
          clear hPS
          rintro e w6 ⟨j, rfl, hp, rfl⟩
          have HP : Hid (PassTo s q j) := hp
          clear hp
          have hqj : q ≤ j := HP.out.2.1
          have hjs : j ≤ s.size := HP.out.2.2.1
          go_wp2_with fail
          go_roundw
          case rel => exact ⟨j, ts ++ [tk3 tk tn S], hjs, rfl, HLL.out, HOW.out, hb5, fun r z h => HNX.out r z (HP.out.1 _ r z h), HP.out.2.2.2⟩
          case measure => simp [intOf]; omega
    · have HR : Hid (LexR s 0 [] ts (-1)) := HL.out.1 _ _ (.done k ts hlt)
      have hbk : decide ((k : Int) < s.size) = false := by simp; omega
      clear HL
      go_wp2_with fail
      refine bodyPost_ret (v := .tuple #[.slice a ts.length c, .int .i64 (-1)]) (by first | (simp [results, Tryd.results16, go_sem]; done) | (simp [results, Tryd.results16, go_sem]; rfl)) rfl ⟨a, c, -1, ts, rfl, hown, HR.out, hl, hb⟩

end Go.Proofs.YtickaplokjdijaaDoor
