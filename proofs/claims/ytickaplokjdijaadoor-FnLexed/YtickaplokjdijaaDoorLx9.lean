/- The program's Lex: the tokens of a text, in new memory. -/
import Derived.Test.YtickaplokjdijaaDoorLx8
import Derived.WalkMore
namespace Go.Proofs.YtickaplokjdijaaDoor
open Go.RowKit
set_option linter.unusedVariables false

/-- No rune goes past place n. -/
def NC (s : ByteArray) (p n : Nat) : Prop := p < n → (n = s.size ∨ (∃ h : n < s.size, s[n].toNat < 128) ∨ ∀ (j : Nat) (hj : j < s.size), p ≤ j → j < n → s[j].toNat < 128)

theorem get_get (s : ByteArray) (i : Nat) (h : i < s.size) : s.get! i = s[i] := by
  simp [ByteArray.get!, getElem!_pos, h]
  rfl

theorem nc_step {s : ByteArray} {p n : Nat} (hn : n ≤ s.size) (hpn : p < n) (h : NC s p n) : p + (Utf8.decode s p).2 ≤ n ∧ NC s (p + (Utf8.decode s p).2) n := by
  have hp : p < s.size := by omega
  have hc := h hpn
  constructor
  · refine Nat.le_of_not_lt fun hlt => ?_
    rcases hc with hc | ⟨h1, h2⟩ | hc
    · have := decode_cont s p (n - p) (by omega) (by omega)
      omega
    · have := decode_cont s p (n - p) (by omega) (by omega)
      rw [show p + (n - p) = n from by omega, get_get s n h1] at this
      omega
    · have := decode_ascii s p hp (hc p hp (Nat.le_refl _) hpn)
      rw [this] at hlt
      omega
  · intro h2
    rcases hc with hc | hc | hc
    · exact .inl hc
    · exact .inr (.inl hc)
    · exact .inr (.inr fun j hj h3 h4 => hc j hj (by omega) h4)

theorem row_keep {w w' : World} {B n e z : Nat} {v : Value} {xs : List Value} (h : w.ownsRow B e z v n xs) (hb : ∀ g, B ≤ g → g < w.heap.size → w'.heap[g]? = w.heap[g]?) : w'.ownsRow B e z v n xs := by
  obtain ⟨h1, h2⟩ := h
  refine ⟨h1, ?_⟩
  rcases h2 with h2 | ⟨g, c, cur, e1, e2, e3, e4⟩
  · exact .inl h2
  · exact .inr ⟨g, c, cur, e1, e2, (hb g e2 ((Array.getElem?_eq_some_iff.1 e3).1)).trans e3, e4⟩

/-- What is so of the reading ahead of a round. -/
def LexMid (s : ByteArray) (p n : Nat) (ts : List Tok) : Prop := LexAt s (max p n) ts ∧ NC s p n

set_option maxHeartbeats 8000000 in
set_option maxRecDepth 100000 in
theorem lex_any (s : ByteArray) (w : World) (hs : s.size ≤ 1048576) : Calls Tryd.prog 10 #[.string s] w (LexP s w) := by
  obtain ⟨i0, hi, hz0, hz1, hz2⟩ := info_parts Tryd.infoToken
  go_enter Tryd.func10, Tryd.ntmps10
  go_wp2_with fail
  go_step3
  go_wp2_with fail
  go_step3
  go_wp2_with fail
  go_loopw [4, 5] (fun o i wr => ∃ (p n : Nat) (ts : List Tok), p ≤ s.size ∧ n ≤ s.size ∧ i = .int .i64 n ∧ ts.length ≤ 2000 ∧ wr.heap[w.heap.size]? = some (.stringIter s p) ∧ wr.ownsRow (w.heap.size + 1) 31 3 o ts.length (tokCells ts) ∧ Below w.heap.size w wr ∧ Hid (LexMid s p n ts)) (fun _ _ wr => s.size - wr.iterPos w.heap.size)
  case atStart =>
    refine ⟨0, 0, [], Nat.zero_le _, Nat.zero_le _, rfl, by simp, ?_, ⟨rfl, .inl ⟨rfl, rfl⟩⟩, (Below.refl _ w).alloc (Nat.le_refl _) _, fun r q h => h, fun h => by omega⟩
    have := World.iter_heap w s 0
    simpa using this
  case round =>
    obtain ⟨p, n, ts, hp, hn, rfl, hl, hit, hown, hbw, HM⟩ := hrel
    obtain ⟨a, c, rfl⟩ := tok_shape hown
    have hsz : w.heap.size < wr.heap.size := (Array.getElem?_eq_some_iff.1 hit).1
    by_cases hlt : p < s.size
    · have hnx : ∀ ty, (Instr.next (.pointer (some ⟨w.heap.size, 0, none⟩)) true ty).run Tryd.prog wr = _ := fun ty => Lib.run_next_any_at wr w.heap.size s p ty hit hlt
      obtain ⟨W1, hW1⟩ : ∃ W1, W1 = wr.iterAt w.heap.size s (p + (Utf8.decode s p).2) := ⟨_, rfl⟩
      have hit1 : W1.heap[w.heap.size]? = some (.stringIter s (p + (Utf8.decode s p).2)) := by rw [hW1]; exact Lib.iterAt_heap wr w.heap.size s p _ hit
      have hbw1 : Below w.heap.size w W1 := by rw [hW1]; exact Lib.below_iterAt hbw (Nat.le_refl _) s _
      have hzW : W1.heap.size = wr.heap.size := by rw [hW1]; exact Lib.iterAt_size ..
      have hown1 : W1.ownsRow (w.heap.size + 1) 31 3 (.slice a ts.length c) ts.length (tokCells ts) := row_keep hown fun g h1 h2 => by rw [hW1]; exact Lib.iterAt_other wr w.heap.size g s _ (by omega)
      rw [← hW1] at hnx
      have hd1 := decode_le s p
      clear hown hbw hW1
      by_cases hpn : p < n
      · obtain ⟨h1, h2⟩ := nc_step hn hpn HM.out.2
        have HM1 : Hid (LexMid s (p + (Utf8.decode s p).2) n ts) := ⟨by have := HM.out.1; rw [Nat.max_eq_right (by omega)] at this; rw [Nat.max_eq_right h1]; exact this, h2⟩
        have hwd : 1 ≤ (Utf8.decode s p).2 := by
          by_cases ha : s[p].toNat < 128
          · rw [decode_ascii s p hlt ha]; exact Nat.le_refl _
          · exact (decode_high s p hlt (by omega)).2
        generalize (Utf8.decode s p).1 = r0 at hnx hd1
        generalize (Utf8.decode s p).2 = d0 at *
        clear HM
        go_wp2_with fail
        go_roundw
        case rel => exact ⟨p + d0, n, ts, by omega, hn, rfl, hl, hit1, hown1, hbw1, HM1⟩
        case measure =>
          simp only [World.iterPos, hit1, hit]
          omega
      · have HA : Hid (LexAt s p ts) := by have := HM.out.1; rw [Nat.max_eq_left (by omega)] at this; exact this
        clear HM
        have hr : (s[p].toNat < 128 ∧ (Utf8.decode s p).1 = s[p].toNat ∧ (Utf8.decode s p).2 = 1) ∨ (128 ≤ s[p].toNat ∧ 128 ≤ (Utf8.decode s p).1 ∧ 1 ≤ (Utf8.decode s p).2) := by
          by_cases ha : s[p].toNat < 128
          · rw [decode_ascii s p hlt ha]; exact .inl ⟨ha, rfl, rfl⟩
          · have := decode_high s p hlt (by omega); exact .inr ⟨by omega, this⟩
        obtain ⟨y, hy⟩ : ∃ y : Int, ((Utf8.decode s p).1 : Int) = y := ⟨_, rfl⟩
        rw [hy] at hnx
        obtain ⟨d0, hd0⟩ : ∃ d0, (Utf8.decode s p).2 = d0 := ⟨_, rfl⟩
        rw [hd0] at hit1
        obtain ⟨x, hx⟩ : ∃ x : Int, (s[p].toNat : Int) = x := ⟨_, rfl⟩
        have HX : Hid ((s[p].toNat : Int) = x) := hx
        have hr2 : (x < 128 ∧ y = x ∧ d0 = 1) ∨ (128 ≤ x ∧ 128 ≤ y ∧ 1 ≤ d0) := by
          rcases hr with ⟨h1, h2, h3⟩ | ⟨h1, h2, h3⟩
          · exact .inl ⟨by omega, by omega, by omega⟩
          · exact .inr ⟨by omega, by omega, by omega⟩
        have hlen : (s.extract p s.size).size = s.size - p := ex_size s p s.size (Nat.le_refl _)
        clear hr hy hd0 hd1 hx
        by_cases hbl : Bl y
        · have hxy : y = x ∧ d0 = 1 := by
            rcases hr2 with h | h
            · exact h.2
            · rcases hbl with h1 | h1 | h1 | h1 <;> omega
          obtain ⟨rfl, rfl⟩ := hxy
          have HM1 : Hid (LexMid s (p + 1) n ts) := ⟨by rw [Nat.max_eq_left (by omega)]; exact fun r q h => HA.out r q (.blank p ts r q hlt (by rw [HX.out]; exact hbl) h), fun h => by omega⟩
          clear HX HA hr2
          rcases hbl with rfl | rfl | rfl | rfl
          all_goals
            go_wp2_with fail
            go_roundw
            case rel => exact ⟨p + 1, n, ts, by omega, hn, rfl, hl, hit1, hown1, hbw1, HM1⟩
            case measure =>
              simp only [World.iterPos, hit1, hit]
              omega
        · have b1 : (y == 32) = false := by rw [beq_eq_false_iff_ne]; exact fun h => hbl (.inl h)
          have b2 : (y == 9) = false := by rw [beq_eq_false_iff_ne]; exact fun h => hbl (.inr (.inl h))
          have b3 : (y == 10) = false := by rw [beq_eq_false_iff_ne]; exact fun h => hbl (.inr (.inr (.inl h)))
          have b4 : (y == 13) = false := by rw [beq_eq_false_iff_ne]; exact fun h => hbl (.inr (.inr (.inr h)))
          by_cases h37 : y = 37
          · have hxy : y = x ∧ d0 = 1 := by
              rcases hr2 with h | h
              · exact h.2
              · omega
            obtain ⟨rfl, rfl⟩ := hxy
            have HK : Hid (∀ m, RunTo nlB (s.extract p s.size) 0 m → 1 ≤ m ∧ p + m ≤ s.size ∧ LexMid s (p + 1) (p + m) ts) := fun m hm => by
              have hm2 := (run_shift (by omega)).1 hm
              have hm1 : p < p + m := hm2.lt hlt (by rw [HX.out, h37]; rfl)
              refine ⟨by omega, hm2.2.1, ?_, fun h => ?_⟩
              · rw [Nat.max_eq_right (by omega)]
                exact fun r q h => HA.out r q (.remark p (p + m) ts r q hlt (by rw [HX.out]; exact h37) hm2 h)
              · by_cases he : p + m = s.size
                · exact .inl he
                · have h5 : p + m < s.size := by have := hm2.2.1; omega
                  have h6 := hm2.2.2.2 h5
                  refine .inr (.inl ⟨h5, ?_⟩)
                  simp [nlB] at h6
                  omega
            have hC := lineSize_any (s.extract p s.size) W1 (by omega)
            subst h37
            clear HX HA hr2 b1 b2 b3 b4 hbl
            go_wp2_with fail
            refine hC.mono ?_
            clear hC
            rintro e w' ⟨m, rfl, hm, rfl⟩
            obtain ⟨hm1, hm2, hm3⟩ := HK.out m hm.out
            have HM1 : Hid (LexMid s (p + 1) (p + m) ts) := hm3
            clear HK hm hm3
            go_wp2_with fail
            go_roundw
            case rel => exact ⟨p + 1, p + m, ts, by omega, hm2, by go_num, hl, hit1, hown1, hbw1, HM1⟩
            case measure =>
              simp only [World.iterPos, hit1, hit]
              omega
          · have b5 : (y == 37) = false := by rw [beq_eq_false_iff_ne]; exact h37
            have HNB : Hid (¬ Bl (s[p].toNat : Int) ∧ ¬ (s[p].toNat : Int) = 37) := by
              rw [HX.out]
              rcases hr2 with ⟨_, rfl, _⟩ | ⟨h, _, _⟩
              · exact ⟨hbl, h37⟩
              · exact ⟨fun hb => by rcases hb with h1 | h1 | h1 | h1 <;> omega, by omega⟩
            have HD0 : Hid (x < 128 → d0 = 1) := fun h => by rcases hr2 with h1 | h1; exact h1.2.2; omega
            have hd1 : 1 ≤ d0 := by rcases hr2 with h1 | h1 <;> omega
            have hC := firstToken_any (s.extract p s.size) W1 (by omega) (by omega)
            clear hr2 hbl h37
            go_wp2_with fail
            refine hC.mono ?_
            clear hC
            rintro e w1 ⟨tk, tn, S, q, rfl, hor, hq1, hS, hb1⟩
            have HOR : Hid (OneR s p tk tn S (p + q)) := oneR_shift hlt hor
            have hS2 : S.size ≤ s.size := by omega
            have hq2 : p + q ≤ s.size := by omega
            have hown2 := ownsRow_kept hown1 hb1
            have hbw2 : Below w.heap.size w w1 := hbw1.trans (hb1.mono hbw1.size)
            have hit2 := (hb1.block _ (by omega)).trans hit1
            have hz1' : w.heap.size < w1.heap.size := lt_of_heap hit2
            clear hor hown1 hbw1 hb1 hS hq1 hlen b1 b2 b3 b4 b5
            obtain ⟨w2, hw2⟩ : ∃ w2, w2 = w1.alloc (.cells #[.int .i64 tk, .int .i64 tn, .string S] 31) := ⟨_, rfl⟩
            have h12 : Below w1.heap.size w1 w2 := by rw [hw2]; exact (Below.refl _ _).alloc (Nat.le_refl _) _
            have hz2' : w2.heap.size = w1.heap.size + 1 := by rw [hw2]; simp
            have ht2 : w2.heap[w1.heap.size]? = some (.cells #[.int .i64 tk, .int .i64 tn, .string S] 31 (0, 0)) := by rw [hw2]; exact heap_alloc_new w1 _
            have hC := tokenOk_any tk tn S w2 (by omega)
            rw [hw2] at hC
            have HW2 : Hid (w2 = _) := hw2
            clear hw2
            go_wp2_with fail
            refine hC.mono ?_
            clear hC
            rintro e w3 ⟨b, rfl, hbt, h23⟩
            rw [← HW2.out] at h23
            have ht3 := (h23.block _ (by omega)).trans ht2
            have hown3 := ownsRow_kept (ownsRow_kept hown2 h12) h23
            have hbw3 : Below w.heap.size w w3 := (hbw2.trans (h12.mono hbw2.size)).trans (h23.mono (Nat.le_trans hbw2.size h12.size))
            have hit3 := (h23.block _ (by omega)).trans ((h12.block _ hz1').trans hit2)
            have hz3 : w1.heap.size < w3.heap.size := by have := h23.size; omega
            clear h12 h23 ht2 hown2 hbw2 HW2 hz2' hit2
            have HSTOP : Hid ((¬ (∃ t e, OneAt s p t e) ∨ ts.length = 2000) → LexR s 0 [] [] p) := fun h => HA.out _ _ (.stop p ts hlt HNB.out.1 HNB.out.2 h)
            cases b
            · have HR : Hid (LexR s 0 [] [] p) := HSTOP.out (.inl (HOR.out.2 fun h => by have := hbt.2 h; cases this))
              clear HSTOP hbt HOR HA HNB HD0 HX
              go_wp2_with fail
              try rw [Exit.noGoto_ret]
              refine bodyPost_ret (v := .tuple #[.slice none 0 0, .int .i64 p]) (by first | (simp [results, Tryd.results10, go_sem]; done) | (simp [results, Tryd.results10, go_sem]; rfl)) rfl ⟨none, 0, p, [], rfl, ⟨rfl, .inl ⟨rfl, rfl⟩⟩, HR.out, by simp, hbw3⟩
            · by_cases hfull : ts.length = 2000
              · have HR : Hid (LexR s 0 [] [] p) := HSTOP.out (.inr hfull)
                have hbf : ((ts.length : Int) == 2000) = true := by rw [hfull]; rfl
                clear HSTOP hbt HOR HA HNB HD0 HX hfull
                go_wp2_with fail
                try rw [Exit.noGoto_ret]
                refine bodyPost_ret (v := .tuple #[.slice none 0 0, .int .i64 p]) (by first | (simp [results, Tryd.results10, go_sem]; done) | (simp [results, Tryd.results10, go_sem]; rfl)) rfl ⟨none, 0, p, [], rfl, ⟨rfl, .inl ⟨rfl, rfl⟩⟩, HR.out, by simp, hbw3⟩
              · have hbf : ((ts.length : Int) == 2000) = false := by simp; omega
                have hone := HOR.out.1 (hbt.1 rfl)
                have hq3 : p < p + q := hone.lt.1
                have hx128 : x < 128 := by have := hone.ascii p hlt (Nat.le_refl _) hq3; have := HX.out; omega
                have hdd : d0 = 1 := HD0.out hx128
                subst hdd
                have HNX : Hid (LexMid s (p + 1) (p + q) (ts ++ [tk3 tk tn S])) := ⟨by rw [Nat.max_eq_right (by omega)]; exact fun r z h => HA.out _ _ (.tok p ts r z _ (p + q) hlt HNB.out.1 HNB.out.2 hone hfull h), fun _ => .inr (.inr fun j hj h1 h2 => hone.ascii j hj (by omega) h2)⟩
                have t0 : w3.cell? ⟨w1.heap.size, 0, none⟩ = some (.int .i64 tk) := by rw [cell_of_row w3 _ 0 _ _ _ ht3]; rfl
                have t1 : w3.cell? ⟨w1.heap.size, 1, none⟩ = some (.int .i64 tn) := by rw [cell_of_row w3 _ 1 _ _ _ ht3]; rfl
                have t2 : w3.cell? ⟨w1.heap.size, 2, none⟩ = some (.string S) := by rw [cell_of_row w3 _ 2 _ _ _ ht3]; rfl
                clear HSTOP hbt HOR HA HNB HD0 HX ht3 hone hx128
                have hown4 := ownsRow_kept hown3 ((Below.refl _ w3).alloc (Nat.le_refl _) (.cells #[.int .i64 tk, .int .i64 tn, .string S] 31))
                have HC : Hid (tokCells ts ++ [.int .i64 tk, .int .i64 tn, .string S] = tokCells (ts ++ [tk3 tk tn S])) := (tokCells_snoc ts tk tn S).symm
                have HOB : Hid (∀ g, (Value.slice a ts.length c).ownBlock = some g → w.heap.size + 1 ≤ g) := row_above hown3
                obtain ⟨cs, hcs⟩ : ∃ cs, tokCells ts = cs := ⟨_, rfl⟩
                obtain ⟨nn, hnn⟩ : ∃ n, ts.length = n := ⟨_, rfl⟩
                have HLN : Hid (ts.length = nn) := hnn
                rw [hcs] at hown4 HC
                rw [hnn] at hown4 hl hbf HOB ⊢
                clear hcs hown3 hfull hnn
                go_wp2_with (at_builtin; refine wpList_append_own _ rfl (.tmp 49) (.tmp 51) 24 rfl (w.heap.size + 1) 31 i0 (.agg #[.int .i64 0, .int .i64 0, .string ⟨#[]⟩]) 3 32 Tryd.underlying24 hi hz0 hz1 hz2 rfl (by decide) _ _ _ rfl hown4 ⟨w3.heap.size, 0, none⟩ 1 1 [.int .i64 tk, .int .i64 tn, .string S] rfl rfl (three_new w3 _ _ _ _) (by intro u hu; simp at hu; rcases hu with rfl | rfl | rfl <;> rfl) (by unfold maxLen; omega) (by omega) (by simp; omega) ?_)
                intro v' w5 hown5 hgr5 _
                have hb5 : Below w.heap.size w w5 := (hbw3.alloc hbw3.size _).grown hgr5 (by simp; have := hbw3.size; omega) (fun g hg => by have := HOB.out g hg; omega)
                have hlen5 : (ts ++ [tk3 tk tn S]).length = nn + 1 := by rw [List.length_append, HLN.out]; rfl
                have hit5 : w5.heap[w.heap.size]? = some (.stringIter s (p + 1)) := (hgr5.block _ (by simp; omega) (fun e => by have := HOB.out _ e.symm; omega)).trans ((heap_alloc_old w3 _ (by omega)).trans hit3)
                rw [HC.out, ← hlen5] at hown5
                have HOW : Hid (w5.ownsRow (w.heap.size + 1) 31 3 v' (ts ++ [tk3 tk tn S]).length (tokCells (ts ++ [tk3 tk tn S]))) := hown5
                have hl5 : (ts ++ [tk3 tk tn S]).length ≤ 2000 := by
                  have : ¬ (nn : Int) = 2000 := by simpa using hbf
                  omega
                have HLL : Hid ((ts ++ [tk3 tk tn S]).length ≤ 2000) := hl5
                clear hown5 hgr5 hown4 HC HOB hlen5 hl5 t0 t1 t2 HLN hbf hit3 hit1
                go_wp2_with fail
                go_roundw
                case rel => exact ⟨p + 1, p + q, ts ++ [tk3 tk tn S], by omega, hq2, by go_num, HLL.out, hit5, HOW.out, hb5, HNX⟩
                case measure =>
                  simp only [World.iterPos, hit5, hit]
                  omega
    · have hnx : ∀ ty, (Instr.next (.pointer (some ⟨w.heap.size, 0, none⟩)) true ty).run Tryd.prog wr = _ := fun ty => Lib.run_next_end_at wr w.heap.size s p ty hit hlt
      have HR : Hid (LexR s 0 [] ts (-1)) := HM.out.1 _ _ (.done (max p n) ts (by omega))
      clear HM
      go_wp2_with fail
      try rw [Exit.noGoto_ret]
      refine bodyPost_ret (v := .tuple #[.slice a ts.length c, .int .i64 (-1)]) (by first | (simp [results, Tryd.results10, go_sem]; done) | (simp [results, Tryd.results10, go_sem]; rfl)) rfl ⟨a, c, -1, ts, rfl, ?_, HR.out, hl, hbw⟩
      obtain ⟨q1, q2⟩ := hown
      refine ⟨q1, ?_⟩
      rcases q2 with q2 | ⟨g, c', cur, e1, e2, e3⟩
      · exact .inl q2
      · exact .inr ⟨g, c', cur, e1, by omega, e3⟩

end Go.Proofs.YtickaplokjdijaaDoor
