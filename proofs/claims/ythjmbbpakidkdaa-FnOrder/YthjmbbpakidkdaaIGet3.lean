/- The program's reading of a term, on: what it is within. -/
import Derived.Test.YthjmbbpakidkdaaIGet2
namespace Go.Proofs.Ythjmbbpakidkdaa
open Go.RowKit
set_option linter.unusedVariables false

theorem post_bad {m : Nat} {w w' : World} {p b off n cap : Nat} {zs : List Int} {at_ at' : Int} {v : Value} (hr : Rdr w' p b off n cap zs at' true) (ht : Turned p w w') (h : getT zs m at_ = none) : Post m w w' p b off n cap zs at_ v :=
  ⟨at', true, hr, ht, (fun e => Bool.noConfusion e), fun _ => h⟩

theorem post_leaf {m : Nat} {w w' : World} {p b off n cap : Nat} {zs : List Int} {at_ at' k x : Int} {s : ByteArray} (hr : Rdr w' p b off n cap zs at' false) (ht : Turned p w w') (hk : I64 k) (hx : I64 x) (hs : s.size ≤ maxLen) (hlt : at_ < at') (hle : at' ≤ n)
    (h : getT zs (m + 1) at_ = some (((k, x, s, []) : Int × Int × ByteArray × List (Tm m)), at')) : Post (m + 1) w w' p b off n cap zs at_ (.agg #[.int .i64 k, .int .i64 x, .string s, .slice none 0 0]) := by
  obtain ⟨a, l, c, fp, e, h1, h2, h3⟩ := (made_nil m w.heap.size w').own
  refine ⟨at', false, hr, ht, fun _ => ⟨((k, x, s, []) : Int × Int × ByteArray × List (Tm m)), fp, ⟨none, 0, 0, rfl, h1⟩, h2, ⟨hk, hx, hs, h3⟩, .inl h, hlt, hle⟩, (fun e => Bool.noConfusion e)⟩

theorem getT_at {m : Nat} {zs : List Int} {at_ k q : Int} (h : getNum zs at_ = (k, q, true)) : getT zs (m + 1) at_ = getB zs (getT zs m) k q := by
  show (if (getNum zs at_).2.2 = true then getB zs (getT zs m) (getNum zs at_).1 (getNum zs at_).2.1 else none) = _
  rw [h]; rfl
theorem getT_no {m : Nat} {zs : List Int} {at_ : Int} (h : ¬ (getNum zs at_).2.2 = true) : getT zs (m + 1) at_ = none := by
  show (if (getNum zs at_).2.2 = true then _ else none) = _
  rw [if_neg h]
  rfl

/-- A list that was read, as a term of its kind. -/
theorem post_list {m : Nat} {w w1 w' : World} {p b off n cap : Nat} {zs : List Int} {at_ k q : Int} {a : Option Addr} {l c : Nat} (hk : k = 4 ∨ k = 5) (hB : Bts n cap zs) (hg : getNum zs at_ = (k, q, true)) (hq : at_ < q) (ht1 : Turned p w w1)
    (h : PPost m w1 w' p b off n cap zs q a l c) :
    Post (m + 1) w w' p b off n cap zs at_ (.agg #[.int .i64 k, .int .i64 0, .string ByteArray.empty, .slice a l c]) := by
  obtain ⟨at', bad, h1, h2, h3, h4⟩ := h
  have k13 : ¬ (k = 1 ∨ k = 3) := by omega
  have k2 : ¬ k = 2 := by omega
  refine ⟨at', bad, h1, ht1.trans h2, fun hb => ?_, fun hb => ?_⟩
  · obtain ⟨x, r, ts, fp, g1, g2, g3, g4, g5, g6, g7, g8, g9⟩ := h3 hb
    refine ⟨((k, 0, ByteArray.empty, ts) : Int × Int × ByteArray × List (Tm m)), fp, ⟨a, l, c, rfl, g4⟩, ⟨g5.1, fun g hg => ⟨Nat.le_trans ht1.size (g5.2 g hg).1, (g5.2 g hg).2⟩⟩, ⟨⟨by show _ ≤ k; omega, by show k ≤ _; omega⟩, ⟨by show _ ≤ (0 : Int); omega, by show (0 : Int) ≤ _; omega⟩, Nat.zero_le _, g6⟩, ?_, by omega, g9⟩
    unfold Came
    rw [getT_at hg]
    unfold getB
    rw [if_neg k13, if_neg k2, g1]
    by_cases hx : x ≤ 60
    · rw [if_pos ⟨hk, rfl, g2, hx⟩]
      dsimp only
      rcases g7 with g7 | ⟨g7, gn⟩
      · rw [g7]; exact .inl rfl
      · rw [g7]; exact .inr ⟨rfl, fun ho => gn ho.2⟩
    · rw [if_neg (fun hc => hx hc.2.2.2)]
      refine .inr ⟨rfl, fun ho => ?_⟩
      have hsh : Shape k 0 ByteArray.empty ts.length := ho.1
      rcases hk with rfl | rfl
      · have := ((shape4 _ _ _).1 hsh).2.2; omega
      · have := ((shape5 _ _ _).1 hsh).2.2; omega
  · rw [getT_at hg]
    unfold getB
    rw [if_neg k13, if_neg k2]
    split
    · rename_i hc
      rw [h4 hb hc.2.1 hc.2.2.1]
      rfl
    · rfl

set_option maxHeartbeats 2000000 in
theorem readForm_of (m : Nat) (hm : m ≤ 8) (H : RPC m) : RFC m := by
  intro p b off n cap zs at_ w hB hr
  have HBT : Hid (Bts n cap zs) := hB
  have HRD : Hid (Rdr w p b off n cap zs at_ false) := hr
  by_cases hg : (getNum zs at_).2.2 = true
  case neg =>
    have hC := num_bad p b off n cap zs at_ w hB hr hg
    have HN : Hid (getT zs (m + 1) at_ = none) := getT_no hg
    clear hr hB hg HBT HRD H
    go_enter Try.func124, Try.ntmps124
    go_wp2_with fail
    refine hC.mono ?_
    clear hC
    rintro e w1 ⟨rfl, hr1, ht1⟩
    have z1 : w1.frozen? ⟨p, 2, none⟩ = false := frozen_of_row w1 _ _ _ _ hr1.heap
    have c2 : w1.cell? ⟨p, 2, none⟩ = some (.bool true) := by rw [cell_of_row w1 _ 2 _ _ _ hr1.heap]; rfl
    have HP : Hid (Post (m + 1) w (w1.setCell ⟨p, 2, none⟩ (.bool true)) p b off n cap zs at_ (.agg #[.int .i64 0, .int .i64 0, .string ByteArray.empty, .slice none 0 0])) := post_bad hr1.spoil (ht1.trans (Turned.of_set _ _ _ _)) HN.out
    clear hr1 ht1 HN
    go_wp2_with fail
    go_ret
    exact ⟨_, 0, 0, ByteArray.empty, none, 0, 0, rfl, termOf_nil, HP⟩
  obtain ⟨k, q, hgk⟩ : ∃ k q, getNum zs at_ = (k, q, true) := ⟨(getNum zs at_).1, (getNum zs at_).2.1, by rw [← hg]⟩
  have hlt := getNum_lt zs at_ hg
  rw [hgk] at hlt
  obtain ⟨hq, hqn, hk0, hk1⟩ : at_ < q ∧ q ≤ zs.length ∧ -1000000000000 ≤ k ∧ k ≤ 1000000000000 := hlt
  have HG : Hid (getNum zs at_ = (k, q, true)) := hgk
  have hC := num_ok p b off n cap zs at_ k q w hB hr hgk
  have HI : Hid (RPC m) := H
  clear hg hgk hr H hB
  go_enter Try.func124, Try.ntmps124
  go_wp2_with fail
  refine hC.mono ?_
  clear hC
  rintro e w1 ⟨rfl, hr1, ht1⟩
  have HR1 : Hid (Rdr w1 p b off n cap zs q false) := hr1
  have HT1 : Hid (Turned p w w1) := ht1
  clear hr1 ht1
  by_cases h1 : k = 1
  · subst h1
    by_cases hg2 : (getNum zs q).2.2 = true
    · have hl2 := getNum_lt zs q hg2
      obtain ⟨x, r, hgx⟩ : ∃ x r, getNum zs q = (x, r, true) := ⟨(getNum zs q).1, (getNum zs q).2.1, by rw [← hg2]⟩
      rw [hgx] at hl2
      have HP : Hid (∀ w', Rdr w' p b off n cap zs r false → Turned p w1 w' → Post (m + 1) w w' p b off n cap zs at_ (.agg #[.int .i64 1, .int .i64 x, .string ByteArray.empty, .slice none 0 0])) := fun w' g1 g2 => by
        refine post_leaf g1 (HT1.out.trans g2) ⟨by omega, by omega⟩ ⟨by have : -1000000000000 ≤ x := hl2.2.2.1; omega, by have : x ≤ 1000000000000 := hl2.2.2.2; omega⟩ (Nat.zero_le _) (by have : q < r := hl2.1; omega) (by have : r ≤ zs.length := hl2.2.1; have := HBT.out.len; omega) ?_
        rw [getT_at HG.out]; unfold getB; rw [if_pos (.inl rfl), hgx]; rfl
      have hC := num_ok p b off n cap zs q x r w1 HBT.out HR1.out hgx
      clear hl2 hgx hg2
      go_wp2_with fail
      refine hC.mono ?_
      clear hC
      rintro e w2 ⟨rfl, g1, g2⟩
      have HP2 : Hid _ := HP.out w2 g1 g2
      clear g1 g2 HP
      go_wp2_with fail
      go_ret
      exact ⟨_, 1, x, ByteArray.empty, none, 0, 0, rfl, termOf_int x, HP2⟩
    · have hC := num_bad p b off n cap zs q w1 HBT.out HR1.out hg2
      have HN : Hid (getT zs (m + 1) at_ = none) := by show _ = _; rw [getT_at HG.out]; unfold getB; rw [if_pos (.inl rfl), if_neg hg2]; rfl
      clear hg2
      go_wp2_with fail
      refine hC.mono ?_
      clear hC
      rintro e w2 ⟨rfl, g1, g2⟩
      have HP2 : Hid (Post (m + 1) w w2 p b off n cap zs at_ (.agg #[.int .i64 1, .int .i64 0, .string ByteArray.empty, .slice none 0 0])) := post_bad g1 (HT1.out.trans g2) HN.out
      clear g1 g2
      go_wp2_with fail
      go_ret
      exact ⟨_, 1, 0, ByteArray.empty, none, 0, 0, rfl, termOf_int 0, HP2⟩
  by_cases h3 : k = 3
  · subst h3
    by_cases hg2 : (getNum zs q).2.2 = true
    · have hl2 := getNum_lt zs q hg2
      obtain ⟨x, r, hgx⟩ : ∃ x r, getNum zs q = (x, r, true) := ⟨(getNum zs q).1, (getNum zs q).2.1, by rw [← hg2]⟩
      rw [hgx] at hl2
      have HP : Hid (∀ w', Rdr w' p b off n cap zs r false → Turned p w1 w' → Post (m + 1) w w' p b off n cap zs at_ (.agg #[.int .i64 3, .int .i64 x, .string ByteArray.empty, .slice none 0 0])) := fun w' g1 g2 => by
        refine post_leaf g1 (HT1.out.trans g2) ⟨by omega, by omega⟩ ⟨by have : -1000000000000 ≤ x := hl2.2.2.1; omega, by have : x ≤ 1000000000000 := hl2.2.2.2; omega⟩ (Nat.zero_le _) (by have : q < r := hl2.1; omega) (by have : r ≤ zs.length := hl2.2.1; have := HBT.out.len; omega) ?_
        rw [getT_at HG.out]; unfold getB; rw [if_pos (.inr rfl), hgx]; rfl
      have hC := num_ok p b off n cap zs q x r w1 HBT.out HR1.out hgx
      clear hl2 hgx hg2
      go_wp2_with fail
      refine hC.mono ?_
      clear hC
      rintro e w2 ⟨rfl, g1, g2⟩
      have HP2 : Hid _ := HP.out w2 g1 g2
      clear g1 g2 HP
      go_wp2_with fail
      go_ret
      exact ⟨_, 3, x, ByteArray.empty, none, 0, 0, rfl, termOf_pid x, HP2⟩
    · have hC := num_bad p b off n cap zs q w1 HBT.out HR1.out hg2
      have HN : Hid (getT zs (m + 1) at_ = none) := by show _ = _; rw [getT_at HG.out]; unfold getB; rw [if_pos (.inr rfl), if_neg hg2]; rfl
      clear hg2
      go_wp2_with fail
      refine hC.mono ?_
      clear hC
      rintro e w2 ⟨rfl, g1, g2⟩
      have HP2 : Hid (Post (m + 1) w w2 p b off n cap zs at_ (.agg #[.int .i64 3, .int .i64 0, .string ByteArray.empty, .slice none 0 0])) := post_bad g1 (HT1.out.trans g2) HN.out
      clear g1 g2
      go_wp2_with fail
      go_ret
      exact ⟨_, 3, 0, ByteArray.empty, none, 0, 0, rfl, termOf_pid 0, HP2⟩
  by_cases h2 : k = 2
  · subst h2
    by_cases hg2 : (getText zs q).2.2 = true
    · have hl2 := getText_lt zs q hg2
      obtain ⟨x, r, hgx⟩ : ∃ x r, getText zs q = (x, r, true) := ⟨(getText zs q).1, (getText zs q).2.1, by rw [← hg2]⟩
      rw [hgx] at hl2
      have HP : Hid (∀ w', Rdr w' p b off n cap zs r false → Turned p w1 w' → Post (m + 1) w w' p b off n cap zs at_ (.agg #[.int .i64 2, .int .i64 0, .string (strOfNums x), .slice none 0 0])) := fun w' g1 g2 => by
        refine post_leaf g1 (HT1.out.trans g2) ⟨by omega, by omega⟩ ⟨by omega, by omega⟩ (by have : x.length ≤ zs.length := hl2.2.2; have := HBT.out.len; have := HBT.out.le; rw [strOfNums_size]; unfold maxLen; omega) (by have : q < r := hl2.1; omega) (by have : r ≤ zs.length := hl2.2.1; have := HBT.out.len; omega) ?_
        rw [getT_at HG.out]; unfold getB; rw [if_neg (by omega), if_pos rfl, hgx]; rfl
      have hC := text_ok p b off n cap zs q r x w1 HBT.out HR1.out hgx
      clear hl2 hgx hg2
      go_wp2_with fail
      refine hC.mono ?_
      clear hC
      rintro e w2 ⟨rfl, g1, g2⟩
      have HP2 : Hid _ := HP.out w2 g1 g2
      clear g1 g2 HP
      go_wp2_with fail
      go_ret
      exact ⟨_, 2, 0, strOfNums x, none, 0, 0, rfl, termOf_atom _, HP2⟩
    · have hC := text_bad p b off n cap zs q w1 HBT.out HR1.out hg2
      have HN : Hid (getT zs (m + 1) at_ = none) := by show _ = _; rw [getT_at HG.out]; unfold getB; rw [if_neg (by omega), if_pos rfl, if_neg hg2]; rfl
      clear hg2
      go_wp2_with fail
      refine hC.mono ?_
      clear hC
      rintro e w2 ⟨rfl, g1, g2⟩
      have HP2 : Hid (Post (m + 1) w w2 p b off n cap zs at_ (.agg #[.int .i64 2, .int .i64 0, .string ByteArray.empty, .slice none 0 0])) := post_bad g1 (HT1.out.trans g2) HN.out
      clear g1 g2
      go_wp2_with fail
      go_ret
      exact ⟨_, 2, 0, ByteArray.empty, none, 0, 0, rfl, termOf_atom _, HP2⟩
  by_cases h4 : k = 4
  · subst h4
    have hC := HI.out p b off n cap zs q w1 HBT.out HR1.out
    rw [show (9 : Int) - m = 8 - m + 1 from by omega] at hC
    obtain ⟨dp, hdp⟩ : ∃ dp : Int, 8 - (m : Int) = dp := ⟨_, rfl⟩
    rw [hdp] at hC ⊢
    have hdp0 : -1 ≤ dp ∧ dp ≤ 8 := by omega
    clear hdp
    go_wp2_with fail
    refine hC.mono ?_
    clear hC
    rintro e w2 ⟨a, l, c, rfl, HQ⟩
    have HP2 : Hid (Post (m + 1) w w2 p b off n cap zs at_ (.agg #[.int .i64 4, .int .i64 0, .string ByteArray.empty, .slice a l c])) := post_list (by omega) HBT.out HG.out hq HT1.out HQ.out
    clear HQ
    go_wp2_with fail
    go_ret
    exact ⟨_, 4, 0, ByteArray.empty, a, l, c, rfl, termOf_tuple a l c, HP2⟩
  by_cases h5 : k = 5
  · subst h5
    have hC := HI.out p b off n cap zs q w1 HBT.out HR1.out
    rw [show (9 : Int) - m = 8 - m + 1 from by omega] at hC
    obtain ⟨dp, hdp⟩ : ∃ dp : Int, 8 - (m : Int) = dp := ⟨_, rfl⟩
    rw [hdp] at hC ⊢
    have hdp0 : -1 ≤ dp ∧ dp ≤ 8 := by omega
    clear hdp
    go_wp2_with fail
    refine hC.mono ?_
    clear hC
    rintro e w2 ⟨a, l, c, rfl, HQ⟩
    have HP2 : Hid (Post (m + 1) w w2 p b off n cap zs at_ (.agg #[.int .i64 5, .int .i64 0, .string ByteArray.empty, .slice a l c])) := post_list (by omega) HBT.out HG.out hq HT1.out HQ.out
    clear HQ
    go_wp2_with fail
    go_ret
    exact ⟨_, 5, 0, ByteArray.empty, a, l, c, rfl, termOf_list a l c, HP2⟩
  have e1 : (k == 1) = false := by simp [h1]
  have e2 : (k == 2) = false := by simp [h2]
  have e3 : (k == 3) = false := by simp [h3]
  have e4 : (k == 4) = false := by simp [h4]
  have e5 : (k == 5) = false := by simp [h5]
  have HN : Hid (getT zs (m + 1) at_ = none) := by
    show _ = _
    rw [getT_at HG.out]; unfold getB; rw [if_neg (by omega), if_neg h2, if_neg (by omega)]; rfl
  have hr1 := HR1.out
  have z1 : w1.frozen? ⟨p, 2, none⟩ = false := frozen_of_row w1 _ _ _ _ hr1.heap
  have c2 : w1.cell? ⟨p, 2, none⟩ = some (.bool false) := by rw [cell_of_row w1 _ 2 _ _ _ hr1.heap]; rfl
  have HP : Hid (Post (m + 1) w (w1.setCell ⟨p, 2, none⟩ (.bool true)) p b off n cap zs at_ (.agg #[.int .i64 0, .int .i64 0, .string ByteArray.empty, .slice none 0 0])) := post_bad hr1.spoil (HT1.out.trans (Turned.of_set _ _ _ _)) HN.out
  clear hr1 HN h1 h2 h3 h4 h5 HR1 HT1 HG HBT HRD HI
  go_wp2_with fail
  go_ret
  exact ⟨_, 0, 0, ByteArray.empty, none, 0, 0, rfl, termOf_nil, HP⟩

end Go.Proofs.Ythjmbbpakidkdaa
