/- The program's reading of a term, on: its kinds. -/
import Derived.Test.YtbllnmafilabpaaIGetM
import Derived.Test.YtbllnmafilabpaaIPutM
namespace Go.Proofs.Ytbllnmafilabpaa
open Go.RowKit
set_option linter.unusedVariables false

set_option maxHeartbeats 400000 in
theorem termOf_int (n : Int) (w : World) : Calls Try.prog 33 #[.iface 59 (.int .i64 n)] w fun e w' => e = .returned (.agg #[.int .i64 1, .int .i64 n, .string ByteArray.empty, .slice none 0 0]) ∧ Below w.heap.size w w' := by
  have hA : ∀ o, Below w.heap.size w (w.alloc o) := fun o => (Below.refl _ _).alloc (Nat.le_refl _) _
  go_enter Try.func33, Try.ntmps33
  go_wp2_with fail
  refine (kind_intForm _ _).mono ?_
  rintro e w' ⟨rfl, rfl⟩
  go_wp2_with fail
  refine bodyPost_ret (v := .agg #[.int .i64 1, .int .i64 n, .string ByteArray.empty, .slice none 0 0]) (by first | (simp [results, Try.results33, go_sem]; done) | (simp [results, Try.results33, go_sem]; rfl)) rfl ⟨rfl, ?_⟩
  first | exact hA _

set_option maxHeartbeats 400000 in
theorem termOf_atom (s : ByteArray) (w : World) : Calls Try.prog 33 #[.iface 60 (.string s)] w fun e w' => e = .returned (.agg #[.int .i64 2, .int .i64 0, .string s, .slice none 0 0]) ∧ Below w.heap.size w w' := by
  have hA : ∀ o, Below w.heap.size w (w.alloc o) := fun o => (Below.refl _ _).alloc (Nat.le_refl _) _
  go_enter Try.func33, Try.ntmps33
  go_wp2_with fail
  refine (kind_atomForm _ _).mono ?_
  rintro e w' ⟨rfl, rfl⟩
  go_wp2_with fail
  refine bodyPost_ret (v := .agg #[.int .i64 2, .int .i64 0, .string s, .slice none 0 0]) (by first | (simp [results, Try.results33, go_sem]; done) | (simp [results, Try.results33, go_sem]; rfl)) rfl ⟨rfl, ?_⟩
  first | exact hA _

set_option maxHeartbeats 400000 in
theorem termOf_pid (n : Int) (w : World) : Calls Try.prog 33 #[.iface 62 (.int .i64 n)] w fun e w' => e = .returned (.agg #[.int .i64 3, .int .i64 n, .string ByteArray.empty, .slice none 0 0]) ∧ Below w.heap.size w w' := by
  have hA : ∀ o, Below w.heap.size w (w.alloc o) := fun o => (Below.refl _ _).alloc (Nat.le_refl _) _
  go_enter Try.func33, Try.ntmps33
  go_wp2_with fail
  refine (kind_pidForm _ _).mono ?_
  rintro e w' ⟨rfl, rfl⟩
  go_wp2_with fail
  refine bodyPost_ret (v := .agg #[.int .i64 3, .int .i64 n, .string ByteArray.empty, .slice none 0 0]) (by first | (simp [results, Try.results33, go_sem]; done) | (simp [results, Try.results33, go_sem]; rfl)) rfl ⟨rfl, ?_⟩
  first | exact hA _

set_option maxHeartbeats 400000 in
theorem termOf_tuple (a : Option Addr) (l c : Nat) (w : World) : Calls Try.prog 33 #[.iface 63 (.slice a l c)] w fun e w' => e = .returned (.agg #[.int .i64 4, .int .i64 0, .string ByteArray.empty, .slice a l c]) ∧ Below w.heap.size w w' := by
  have hA : ∀ o, Below w.heap.size w (w.alloc o) := fun o => (Below.refl _ _).alloc (Nat.le_refl _) _
  go_enter Try.func33, Try.ntmps33
  go_wp2_with fail
  refine (kind_tupleForm _ _).mono ?_
  rintro e w' ⟨rfl, rfl⟩
  go_wp2_with fail
  refine bodyPost_ret (v := .agg #[.int .i64 4, .int .i64 0, .string ByteArray.empty, .slice a l c]) (by first | (simp [results, Try.results33, go_sem]; done) | (simp [results, Try.results33, go_sem]; rfl)) rfl ⟨rfl, ?_⟩
  first | exact hA _

set_option maxHeartbeats 400000 in
theorem termOf_list (a : Option Addr) (l c : Nat) (w : World) : Calls Try.prog 33 #[.iface 65 (.slice a l c)] w fun e w' => e = .returned (.agg #[.int .i64 5, .int .i64 0, .string ByteArray.empty, .slice a l c]) ∧ Below w.heap.size w w' := by
  have hA : ∀ o, Below w.heap.size w (w.alloc o) := fun o => (Below.refl _ _).alloc (Nat.le_refl _) _
  go_enter Try.func33, Try.ntmps33
  go_wp2_with fail
  refine (kind_listForm _ _).mono ?_
  rintro e w' ⟨rfl, rfl⟩
  go_wp2_with fail
  refine bodyPost_ret (v := .agg #[.int .i64 5, .int .i64 0, .string ByteArray.empty, .slice a l c]) (by first | (simp [results, Try.results33, go_sem]; done) | (simp [results, Try.results33, go_sem]; rfl)) rfl ⟨rfl, ?_⟩
  first | exact hA _

set_option maxHeartbeats 400000 in
theorem termOf_nil (w : World) : Calls Try.prog 33 #[.nilIface] w fun e w' => e = .returned (.agg #[.int .i64 0, .int .i64 0, .string ByteArray.empty, .slice none 0 0]) ∧ Below w.heap.size w w' := by
  have hA : ∀ o, Below w.heap.size w (w.alloc o) := fun o => (Below.refl _ _).alloc (Nat.le_refl _) _
  go_enter Try.func33, Try.ntmps33
  go_wp2_with fail
  refine bodyPost_ret (v := .agg #[.int .i64 0, .int .i64 0, .string ByteArray.empty, .slice none 0 0]) (by first | (simp [results, Try.results33, go_sem]; done) | (simp [results, Try.results33, go_sem]; rfl)) rfl ⟨rfl, ?_⟩
  exact hA _

theorem scan_lt (zs : List Int) (a : Nat) : ∀ f k, (scan zs a f k).2.2 = true → (a : Int) < (scan zs a f k).2.1 := by
  intro f
  induction f with
  | zero => intro k h; simp [scan] at h
  | succ f ih =>
    intro k h
    rw [scan] at h ⊢
    split at h
    · rename_i h1
      rw [if_pos h1]
      split at h
      · rename_i h2
        rw [if_pos h2]
        exact ih _ h
      · rename_i h2
        rw [if_neg h2]
        split at h
        · simp at h
        · rename_i h3
          rw [if_neg h3]
          show (a : Int) < ((a + k + 1 : Nat) : Int)
          omega
    · simp at h

theorem getNum_lt (zs : List Int) (p : Int) (h : (getNum zs p).2.2 = true) : p < (getNum zs p).2.1 ∧ (getNum zs p).2.1 ≤ zs.length ∧ -1000000000000 ≤ (getNum zs p).1 ∧ (getNum zs p).1 ≤ 1000000000000 := by
  refine ⟨?_, ((getNum_bd zs p).1 h).2, (getNum_bd zs p).2.1, (getNum_bd zs p).2.2⟩
  unfold getNum at h ⊢
  split at h
  · rename_i h1
    rw [if_pos h1]
    unfold fin at h ⊢
    split at h
    · rename_i h2
      rw [if_pos h2]
      have := scan_lt zs p.toNat 6 0 h2.1
      show p < (scan zs p.toNat 6 0).2.1
      omega
    · simp at h
  · simp at h

theorem getText_lt (zs : List Int) (p : Int) (h : (getText zs p).2.2 = true) : p < (getText zs p).2.1 ∧ (getText zs p).2.1 ≤ zs.length ∧ (getText zs p).1.length ≤ zs.length := by
  unfold getText at h ⊢
  split at h
  · rename_i h1
    rw [if_pos h1]
    have := getNum_lt zs p h1.1
    refine ⟨?_, ?_, ?_⟩
    · show p < (getNum zs p).2.1 + (getNum zs p).1; omega
    · show (getNum zs p).2.1 + (getNum zs p).1 ≤ zs.length; omega
    · show ((zs.drop _).take _).length ≤ _; rw [List.length_take, List.length_drop]; omega
  · simp at h

/-- What a reading of a term hands on. -/
def Post (m : Nat) (w w' : World) (p b off n cap : Nat) (zs : List Int) (at_ : Int) (v : Value) : Prop :=
  ∃ (at' : Int) (bad : Bool), Rdr w' p b off n cap zs at' bad ∧ Turned p w w' ∧ (bad = false → ∃ (t : Tm m) (fp : List Nat), OwnT m w' v t fp ∧ Fresh w.heap.size w' fp ∧ WfT m t ∧ Came zs m at_ t at' ∧ at_ < at' ∧ at' ≤ n) ∧ (bad = true → getT zs m at_ = none)

/-- The contract of the reading of a term. -/
def RTC (m : Nat) : Prop := ∀ (p b off n cap : Nat) (zs : List Int) (at_ : Int) (w : World), Bts n cap zs → Rdr w p b off n cap zs at_ false →
  Calls Try.prog 21 #[.pointer (some ⟨p, 0, none⟩), .int .i64 (9 - m)] w fun e w' => ∃ k x s a l c, e = .returned (.agg #[.int .i64 k, .int .i64 x, .string s, .slice a l c]) ∧ Post m w w' p b off n cap zs at_ (.agg #[.int .i64 k, .int .i64 x, .string s, .slice a l c])

/-- The contract of the reading of what a term is within. -/
def RFC (m : Nat) : Prop := ∀ (p b off n cap : Nat) (zs : List Int) (at_ : Int) (w : World), Bts n cap zs → Rdr w p b off n cap zs at_ false →
  Calls Try.prog 34 #[.pointer (some ⟨p, 0, none⟩), .int .i64 (8 - m)] w fun e w' => ∃ f k x s a l c, e = .returned f ∧ Hid (∀ X, Calls Try.prog 33 #[f] X fun e X' => e = .returned (.agg #[.int .i64 k, .int .i64 x, .string s, .slice a l c]) ∧ Below X.heap.size X X') ∧ Hid (Post (m + 1) w w' p b off n cap zs at_ (.agg #[.int .i64 k, .int .i64 x, .string s, .slice a l c]))

/-- What a reading of parts hands on. -/
def PPost (m : Nat) (w w' : World) (p b off n cap : Nat) (zs : List Int) (at_ : Int) (a : Option Addr) (l c : Nat) : Prop :=
  ∃ (at' : Int) (bad : Bool), Rdr w' p b off n cap zs at' bad ∧ Turned p w w' ∧
    (bad = false → ∃ (x q : Int) (ts : List (Tm m)) (fp : List Nat), getNum zs at_ = (x, q, true) ∧ 0 ≤ x ∧ (ts.length : Int) = x ∧ OwnL m w' (.slice a l c) ts fp ∧ Fresh w.heap.size w' fp ∧ WfL m ts ∧ CameL zs m x.toNat q ts at' ∧ at_ < at' ∧ at' ≤ n) ∧
    (bad = true → (getNum zs at_).2.2 = true → 0 ≤ (getNum zs at_).1 → getL (getT zs m) (getNum zs at_).1.toNat (getNum zs at_).2.1 = none)

/-- The contract of the reading of a term's parts. -/
def RPC (m : Nat) : Prop := ∀ (p b off n cap : Nat) (zs : List Int) (at_ : Int) (w : World), Bts n cap zs → Rdr w p b off n cap zs at_ false →
  Calls Try.prog 53 #[.pointer (some ⟨p, 0, none⟩), .int .i64 (9 - m)] w fun e w' => ∃ a l c, e = .returned (.slice a l c) ∧ Hid (PPost m w w' p b off n cap zs at_ a l c)

end Go.Proofs.Ytbllnmafilabpaa

/- The program's reading of a term, on: what it is within. -/
namespace Go.Proofs.Ytbllnmafilabpaa
open Go.RowKit
set_option linter.unusedVariables false

theorem post_bad {m : Nat} {w w' : World} {p b off n cap : Nat} {zs : List Int} {at_ at' : Int} {v : Value} (hr : Rdr w' p b off n cap zs at' true) (ht : Turned p w w') (h : getT zs m at_ = none) : Post m w w' p b off n cap zs at_ v :=
  ⟨at', true, hr, ht, (fun e => Bool.noConfusion e), fun _ => h⟩

theorem post_leaf {m : Nat} {w w' : World} {p b off n cap : Nat} {zs : List Int} {at_ at' k x : Int} {s : ByteArray} (hr : Rdr w' p b off n cap zs at' false) (ht : Turned p w w') (hk : I64 k) (hx : I64 x) (hs : s.size ≤ maxLen) (hlt : at_ < at') (hle : at' ≤ n)
    (h : getT zs (m + 1) at_ = some (((k, x, s, []) : Int × Int × ByteArray × List (Tm m)), at')) : Post (m + 1) w w' p b off n cap zs at_ (.agg #[.int .i64 k, .int .i64 x, .string s, .slice none 0 0]) := by
  obtain ⟨a, l, c, fp, e, h1, h2, h3⟩ := (made_nil m w.heap.size w').own
  refine ⟨at', false, hr, ht, fun _ => ⟨((k, x, s, []) : Int × Int × ByteArray × List (Tm m)), fp, ⟨none, 0, 0, rfl, h1⟩, h2, ⟨hk, hx, hs, h3⟩, .inl h, hlt, hle⟩, (fun e => Bool.noConfusion e)⟩

theorem getT_at {m : Nat} {zs : List Int} {at_ k q : Int} (h : getNum zs at_ = (k, q, true)) : getT zs (m + 1) at_ = getB zs (getT zs m) k q := by
  show (if (getNum zs at_).2.2 = true then getB zs (getT zs m) (getNum zs at_).1 (getNum zs at_).2.1 else none) = _
  rw [h]; rfl
theorem getT_no {m : Nat} {zs : List Int} {at_ : Int} (h : ¬ (getNum zs at_).2.2 = true) : getT zs (m + 1) at_ = none := by
  show (if (getNum zs at_).2.2 = true then _ else none) = _
  rw [if_neg h]
  rfl

/-- A list that was read, as a term of its kind. -/
theorem post_list {m : Nat} {w w1 w' : World} {p b off n cap : Nat} {zs : List Int} {at_ k q : Int} {a : Option Addr} {l c : Nat} (hk : k = 4 ∨ k = 5) (hB : Bts n cap zs) (hg : getNum zs at_ = (k, q, true)) (hq : at_ < q) (ht1 : Turned p w w1)
    (h : PPost m w1 w' p b off n cap zs q a l c) :
    Post (m + 1) w w' p b off n cap zs at_ (.agg #[.int .i64 k, .int .i64 0, .string ByteArray.empty, .slice a l c]) := by
  obtain ⟨at', bad, h1, h2, h3, h4⟩ := h
  have k13 : ¬ (k = 1 ∨ k = 3) := by omega
  have k2 : ¬ k = 2 := by omega
  refine ⟨at', bad, h1, ht1.trans h2, fun hb => ?_, fun hb => ?_⟩
  · obtain ⟨x, r, ts, fp, g1, g2, g3, g4, g5, g6, g7, g8, g9⟩ := h3 hb
    refine ⟨((k, 0, ByteArray.empty, ts) : Int × Int × ByteArray × List (Tm m)), fp, ⟨a, l, c, rfl, g4⟩, ⟨g5.1, fun g hg => ⟨Nat.le_trans ht1.size (g5.2 g hg).1, (g5.2 g hg).2⟩⟩, ⟨⟨by show _ ≤ k; omega, by show k ≤ _; omega⟩, ⟨by show _ ≤ (0 : Int); omega, by show (0 : Int) ≤ _; omega⟩, Nat.zero_le _, g6⟩, ?_, by omega, g9⟩
    unfold Came
    rw [getT_at hg]
    unfold getB
    rw [if_neg k13, if_neg k2, g1]
    by_cases hx : x ≤ 60
    · rw [if_pos ⟨hk, rfl, g2, hx⟩]
      dsimp only
      rcases g7 with g7 | ⟨g7, gn⟩
      · rw [g7]; exact .inl rfl
      · rw [g7]; exact .inr ⟨rfl, fun ho => gn ho.2⟩
    · rw [if_neg (fun hc => hx hc.2.2.2)]
      refine .inr ⟨rfl, fun ho => ?_⟩
      have hsh : Shape k 0 ByteArray.empty ts.length := ho.1
      rcases hk with rfl | rfl
      · have := ((shape4 _ _ _).1 hsh).2.2; omega
      · have := ((shape5 _ _ _).1 hsh).2.2; omega
  · rw [getT_at hg]
    unfold getB
    rw [if_neg k13, if_neg k2]
    split
    · rename_i hc
      rw [h4 hb hc.2.1 hc.2.2.1]
      rfl
    · rfl

set_option maxHeartbeats 2000000 in
theorem readForm_of (m : Nat) (hm : m ≤ 8) (H : RPC m) : RFC m := by
  intro p b off n cap zs at_ w hB hr
  have HBT : Hid (Bts n cap zs) := hB
  have HRD : Hid (Rdr w p b off n cap zs at_ false) := hr
  by_cases hg : (getNum zs at_).2.2 = true
  case neg =>
    have hC := num_bad p b off n cap zs at_ w hB hr hg
    have HN : Hid (getT zs (m + 1) at_ = none) := getT_no hg
    clear hr hB hg HBT HRD H
    go_enter Try.func34, Try.ntmps34
    go_wp2_with fail
    refine hC.mono ?_
    clear hC
    rintro e w1 ⟨rfl, hr1, ht1⟩
    have z1 : w1.frozen? ⟨p, 2, none⟩ = false := frozen_of_row w1 _ _ _ _ hr1.heap
    have c2 : w1.cell? ⟨p, 2, none⟩ = some (.bool true) := by rw [cell_of_row w1 _ 2 _ _ _ hr1.heap]; rfl
    have HP : Hid (Post (m + 1) w (w1.setCell ⟨p, 2, none⟩ (.bool true)) p b off n cap zs at_ (.agg #[.int .i64 0, .int .i64 0, .string ByteArray.empty, .slice none 0 0])) := post_bad hr1.spoil (ht1.trans (Turned.of_set _ _ _ _)) HN.out
    clear hr1 ht1 HN
    go_wp2_with fail
    go_ret
    exact ⟨_, 0, 0, ByteArray.empty, none, 0, 0, rfl, termOf_nil, HP⟩
  obtain ⟨k, q, hgk⟩ : ∃ k q, getNum zs at_ = (k, q, true) := ⟨(getNum zs at_).1, (getNum zs at_).2.1, by rw [← hg]⟩
  have hlt := getNum_lt zs at_ hg
  rw [hgk] at hlt
  obtain ⟨hq, hqn, hk0, hk1⟩ : at_ < q ∧ q ≤ zs.length ∧ -1000000000000 ≤ k ∧ k ≤ 1000000000000 := hlt
  have HG : Hid (getNum zs at_ = (k, q, true)) := hgk
  have hC := num_ok p b off n cap zs at_ k q w hB hr hgk
  have HI : Hid (RPC m) := H
  clear hg hgk hr H hB
  go_enter Try.func34, Try.ntmps34
  go_wp2_with fail
  refine hC.mono ?_
  clear hC
  rintro e w1 ⟨rfl, hr1, ht1⟩
  have HR1 : Hid (Rdr w1 p b off n cap zs q false) := hr1
  have HT1 : Hid (Turned p w w1) := ht1
  clear hr1 ht1
  by_cases h1 : k = 1
  · subst h1
    by_cases hg2 : (getNum zs q).2.2 = true
    · have hl2 := getNum_lt zs q hg2
      obtain ⟨x, r, hgx⟩ : ∃ x r, getNum zs q = (x, r, true) := ⟨(getNum zs q).1, (getNum zs q).2.1, by rw [← hg2]⟩
      rw [hgx] at hl2
      have HP : Hid (∀ w', Rdr w' p b off n cap zs r false → Turned p w1 w' → Post (m + 1) w w' p b off n cap zs at_ (.agg #[.int .i64 1, .int .i64 x, .string ByteArray.empty, .slice none 0 0])) := fun w' g1 g2 => by
        refine post_leaf g1 (HT1.out.trans g2) ⟨by omega, by omega⟩ ⟨by have : -1000000000000 ≤ x := hl2.2.2.1; omega, by have : x ≤ 1000000000000 := hl2.2.2.2; omega⟩ (Nat.zero_le _) (by have : q < r := hl2.1; omega) (by have : r ≤ zs.length := hl2.2.1; have := HBT.out.len; omega) ?_
        rw [getT_at HG.out]; unfold getB; rw [if_pos (.inl rfl), hgx]; rfl
      have hC := num_ok p b off n cap zs q x r w1 HBT.out HR1.out hgx
      clear hl2 hgx hg2
      go_wp2_with fail
      refine hC.mono ?_
      clear hC
      rintro e w2 ⟨rfl, g1, g2⟩
      have HP2 : Hid _ := HP.out w2 g1 g2
      clear g1 g2 HP
      go_wp2_with fail
      go_ret
      exact ⟨_, 1, x, ByteArray.empty, none, 0, 0, rfl, termOf_int x, HP2⟩
    · have hC := num_bad p b off n cap zs q w1 HBT.out HR1.out hg2
      have HN : Hid (getT zs (m + 1) at_ = none) := by show _ = _; rw [getT_at HG.out]; unfold getB; rw [if_pos (.inl rfl), if_neg hg2]; rfl
      clear hg2
      go_wp2_with fail
      refine hC.mono ?_
      clear hC
      rintro e w2 ⟨rfl, g1, g2⟩
      have HP2 : Hid (Post (m + 1) w w2 p b off n cap zs at_ (.agg #[.int .i64 1, .int .i64 0, .string ByteArray.empty, .slice none 0 0])) := post_bad g1 (HT1.out.trans g2) HN.out
      clear g1 g2
      go_wp2_with fail
      go_ret
      exact ⟨_, 1, 0, ByteArray.empty, none, 0, 0, rfl, termOf_int 0, HP2⟩
  by_cases h3 : k = 3
  · subst h3
    by_cases hg2 : (getNum zs q).2.2 = true
    · have hl2 := getNum_lt zs q hg2
      obtain ⟨x, r, hgx⟩ : ∃ x r, getNum zs q = (x, r, true) := ⟨(getNum zs q).1, (getNum zs q).2.1, by rw [← hg2]⟩
      rw [hgx] at hl2
      have HP : Hid (∀ w', Rdr w' p b off n cap zs r false → Turned p w1 w' → Post (m + 1) w w' p b off n cap zs at_ (.agg #[.int .i64 3, .int .i64 x, .string ByteArray.empty, .slice none 0 0])) := fun w' g1 g2 => by
        refine post_leaf g1 (HT1.out.trans g2) ⟨by omega, by omega⟩ ⟨by have : -1000000000000 ≤ x := hl2.2.2.1; omega, by have : x ≤ 1000000000000 := hl2.2.2.2; omega⟩ (Nat.zero_le _) (by have : q < r := hl2.1; omega) (by have : r ≤ zs.length := hl2.2.1; have := HBT.out.len; omega) ?_
        rw [getT_at HG.out]; unfold getB; rw [if_pos (.inr rfl), hgx]; rfl
      have hC := num_ok p b off n cap zs q x r w1 HBT.out HR1.out hgx
      clear hl2 hgx hg2
      go_wp2_with fail
      refine hC.mono ?_
      clear hC
      rintro e w2 ⟨rfl, g1, g2⟩
      have HP2 : Hid _ := HP.out w2 g1 g2
      clear g1 g2 HP
      go_wp2_with fail
      go_ret
      exact ⟨_, 3, x, ByteArray.empty, none, 0, 0, rfl, termOf_pid x, HP2⟩
    · have hC := num_bad p b off n cap zs q w1 HBT.out HR1.out hg2
      have HN : Hid (getT zs (m + 1) at_ = none) := by show _ = _; rw [getT_at HG.out]; unfold getB; rw [if_pos (.inr rfl), if_neg hg2]; rfl
      clear hg2
      go_wp2_with fail
      refine hC.mono ?_
      clear hC
      rintro e w2 ⟨rfl, g1, g2⟩
      have HP2 : Hid (Post (m + 1) w w2 p b off n cap zs at_ (.agg #[.int .i64 3, .int .i64 0, .string ByteArray.empty, .slice none 0 0])) := post_bad g1 (HT1.out.trans g2) HN.out
      clear g1 g2
      go_wp2_with fail
      go_ret
      exact ⟨_, 3, 0, ByteArray.empty, none, 0, 0, rfl, termOf_pid 0, HP2⟩
  by_cases h2 : k = 2
  · subst h2
    by_cases hg2 : (getText zs q).2.2 = true
    · have hl2 := getText_lt zs q hg2
      obtain ⟨x, r, hgx⟩ : ∃ x r, getText zs q = (x, r, true) := ⟨(getText zs q).1, (getText zs q).2.1, by rw [← hg2]⟩
      rw [hgx] at hl2
      have HP : Hid (∀ w', Rdr w' p b off n cap zs r false → Turned p w1 w' → Post (m + 1) w w' p b off n cap zs at_ (.agg #[.int .i64 2, .int .i64 0, .string (strOfNums x), .slice none 0 0])) := fun w' g1 g2 => by
        refine post_leaf g1 (HT1.out.trans g2) ⟨by omega, by omega⟩ ⟨by omega, by omega⟩ (by have : x.length ≤ zs.length := hl2.2.2; have := HBT.out.len; have := HBT.out.le; rw [strOfNums_size]; unfold maxLen; omega) (by have : q < r := hl2.1; omega) (by have : r ≤ zs.length := hl2.2.1; have := HBT.out.len; omega) ?_
        rw [getT_at HG.out]; unfold getB; rw [if_neg (by omega), if_pos rfl, hgx]; rfl
      have hC := text_ok p b off n cap zs q r x w1 HBT.out HR1.out hgx
      clear hl2 hgx hg2
      go_wp2_with fail
      refine hC.mono ?_
      clear hC
      rintro e w2 ⟨rfl, g1, g2⟩
      have HP2 : Hid _ := HP.out w2 g1 g2
      clear g1 g2 HP
      go_wp2_with fail
      go_ret
      exact ⟨_, 2, 0, strOfNums x, none, 0, 0, rfl, termOf_atom _, HP2⟩
    · have hC := text_bad p b off n cap zs q w1 HBT.out HR1.out hg2
      have HN : Hid (getT zs (m + 1) at_ = none) := by show _ = _; rw [getT_at HG.out]; unfold getB; rw [if_neg (by omega), if_pos rfl, if_neg hg2]; rfl
      clear hg2
      go_wp2_with fail
      refine hC.mono ?_
      clear hC
      rintro e w2 ⟨rfl, g1, g2⟩
      have HP2 : Hid (Post (m + 1) w w2 p b off n cap zs at_ (.agg #[.int .i64 2, .int .i64 0, .string ByteArray.empty, .slice none 0 0])) := post_bad g1 (HT1.out.trans g2) HN.out
      clear g1 g2
      go_wp2_with fail
      go_ret
      exact ⟨_, 2, 0, ByteArray.empty, none, 0, 0, rfl, termOf_atom _, HP2⟩
  by_cases h4 : k = 4
  · subst h4
    have hC := HI.out p b off n cap zs q w1 HBT.out HR1.out
    rw [show (9 : Int) - m = 8 - m + 1 from by omega] at hC
    obtain ⟨dp, hdp⟩ : ∃ dp : Int, 8 - (m : Int) = dp := ⟨_, rfl⟩
    rw [hdp] at hC ⊢
    have hdp0 : -1 ≤ dp ∧ dp ≤ 8 := by omega
    clear hdp
    go_wp2_with fail
    refine hC.mono ?_
    clear hC
    rintro e w2 ⟨a, l, c, rfl, HQ⟩
    have HP2 : Hid (Post (m + 1) w w2 p b off n cap zs at_ (.agg #[.int .i64 4, .int .i64 0, .string ByteArray.empty, .slice a l c])) := post_list (by omega) HBT.out HG.out hq HT1.out HQ.out
    clear HQ
    go_wp2_with fail
    go_ret
    exact ⟨_, 4, 0, ByteArray.empty, a, l, c, rfl, termOf_tuple a l c, HP2⟩
  by_cases h5 : k = 5
  · subst h5
    have hC := HI.out p b off n cap zs q w1 HBT.out HR1.out
    rw [show (9 : Int) - m = 8 - m + 1 from by omega] at hC
    obtain ⟨dp, hdp⟩ : ∃ dp : Int, 8 - (m : Int) = dp := ⟨_, rfl⟩
    rw [hdp] at hC ⊢
    have hdp0 : -1 ≤ dp ∧ dp ≤ 8 := by omega
    clear hdp
    go_wp2_with fail
    refine hC.mono ?_
    clear hC
    rintro e w2 ⟨a, l, c, rfl, HQ⟩
    have HP2 : Hid (Post (m + 1) w w2 p b off n cap zs at_ (.agg #[.int .i64 5, .int .i64 0, .string ByteArray.empty, .slice a l c])) := post_list (by omega) HBT.out HG.out hq HT1.out HQ.out
    clear HQ
    go_wp2_with fail
    go_ret
    exact ⟨_, 5, 0, ByteArray.empty, a, l, c, rfl, termOf_list a l c, HP2⟩
  have e1 : (k == 1) = false := by simp [h1]
  have e2 : (k == 2) = false := by simp [h2]
  have e3 : (k == 3) = false := by simp [h3]
  have e4 : (k == 4) = false := by simp [h4]
  have e5 : (k == 5) = false := by simp [h5]
  have HN : Hid (getT zs (m + 1) at_ = none) := by
    show _ = _
    rw [getT_at HG.out]; unfold getB; rw [if_neg (by omega), if_neg h2, if_neg (by omega)]; rfl
  have hr1 := HR1.out
  have z1 : w1.frozen? ⟨p, 2, none⟩ = false := frozen_of_row w1 _ _ _ _ hr1.heap
  have c2 : w1.cell? ⟨p, 2, none⟩ = some (.bool false) := by rw [cell_of_row w1 _ 2 _ _ _ hr1.heap]; rfl
  have HP : Hid (Post (m + 1) w (w1.setCell ⟨p, 2, none⟩ (.bool true)) p b off n cap zs at_ (.agg #[.int .i64 0, .int .i64 0, .string ByteArray.empty, .slice none 0 0])) := post_bad hr1.spoil (HT1.out.trans (Turned.of_set _ _ _ _)) HN.out
  clear hr1 HN h1 h2 h3 h4 h5 HR1 HT1 HG HBT HRD HI
  go_wp2_with fail
  go_ret
  exact ⟨_, 0, 0, ByteArray.empty, none, 0, 0, rfl, termOf_nil, HP⟩

end Go.Proofs.Ytbllnmafilabpaa

/- The program's reading of a term, on: all storeys. -/
namespace Go.Proofs.Ytbllnmafilabpaa
open Go.RowKit
set_option linter.unusedVariables false

set_option maxHeartbeats 1000000 in
theorem readTerm_zero : RTC 0 := by
  intro p b off n cap zs at_ w hB hr
  have z1 : w.frozen? ⟨p, 2, none⟩ = false := frozen_of_row w _ _ _ _ hr.heap
  have c2 : w.cell? ⟨p, 2, none⟩ = some (.bool false) := by rw [cell_of_row w _ 2 _ _ _ hr.heap]; rfl
  have HP : Hid (∀ o1, Post 0 w ((w.setCell ⟨p, 2, none⟩ (.bool true)).alloc o1) p b off n cap zs at_ (.agg #[.int .i64 0, .int .i64 0, .string ByteArray.empty, .slice none 0 0])) := fun o1 =>
    post_bad (hr.spoil.later ((Below.refl _ _).alloc (Nat.le_refl _) _)) ((Turned.of_set _ _ _ _).trans (Turned.of_below ((Below.refl _ _).alloc (Nat.le_refl _) _))) rfl
  rw [show (9 : Int) - ((0 : Nat) : Int) = 9 from by omega]
  have hpz := hr.lt
  clear hr hB
  go_enter Try.func21, Try.ntmps21
  go_wp2_with fail
  refine bodyPost_ret (v := .agg #[.int .i64 0, .int .i64 0, .string ByteArray.empty, .slice none 0 0]) (by first | (simp [results, Try.results21, go_sem]; done) | (simp [results, Try.results21, go_sem]; rfl)) rfl ⟨0, 0, ByteArray.empty, none, 0, 0, rfl, ?_⟩
  exact HP.out _

theorem ownT_frame {m : Nat} {w w' : World} {v : Value} {t : Tm m} {fp : List Nat} (h : OwnT m w v t fp) (hh : ∀ g ∈ fp, w'.heap[g]? = w.heap[g]?) : OwnT m w' v t fp := by
  cases m with
  | zero => exact h
  | succ m =>
    obtain ⟨a, l, c, e, h⟩ := h
    exact ⟨a, l, c, e, h.frame hh⟩

theorem post_move {M : Nat} {w W w1 w2 Z : World} {p b off n cap : Nat} {zs : List Int} {at_ : Int} {v : Value} {bad0 : Bool} (hr : Rdr w p b off n cap zs at_ bad0) (hA : Below w.heap.size w W) (hWz : W.heap.size = w.heap.size + 1) (hP : Post M W w1 p b off n cap zs at_ v)
    (hB : Below w1.heap.size w1 w2) (hT : Turned w.heap.size w2 Z) : Post M w Z p b off n cap zs at_ v := by
  obtain ⟨at', bad, h1, h2, h3, h4⟩ := hP
  have hpz := hr.lt
  have hz1 : W.heap.size ≤ w1.heap.size := h2.size
  have hz2 := hB.size
  have hz3 := hT.size
  have hk : ∀ x, x < w1.heap.size → x ≠ w.heap.size → Z.heap[x]? = w1.heap[x]? := fun x hx hn => (hT.block x (by omega) hn).trans (hB.block x hx)
  refine ⟨at', bad, ⟨(hk p (by omega) (by omega)).trans h1.heap, fun i hi => ?_, h1.ne⟩, ⟨hT.os.trans (hB.os.trans (h2.os.trans hA.os)), hT.tape.trans (hB.tape.trans (h2.tape.trans hA.tape)), hT.output.trans (hB.output.trans (h2.output.trans hA.output)), by omega, fun g hg hn => ?_⟩, fun hb => ?_, h4⟩
  · have hb := hr.blt (by omega)
    rw [World.cell?_of_block (a := ⟨b, off + i, none⟩) (hk b (by omega) (by show b ≠ _; omega))]
    exact h1.row i hi
  · exact (hk g (by omega) (by omega)).trans ((h2.block g (by omega) hn).trans (hA.block g hg))
  · obtain ⟨t, fp, q1, q2, q3, q4, q5, q6⟩ := h3 hb
    refine ⟨t, fp, ownT_frame q1 fun g hg => hk g (q2.2 g hg).2 (by have := (q2.2 g hg).1; omega), ⟨q2.1, fun g hg => ⟨by have := (q2.2 g hg).1; omega, by have := (q2.2 g hg).2; omega⟩⟩, q3, q4, q5, q6⟩

set_option maxHeartbeats 1000000 in
theorem readTerm_of (m : Nat) (hm : m ≤ 7) (H : RFC m) : RTC (m + 1) := by
  intro p b off n cap zs at_ w hB hr
  obtain ⟨W, hW⟩ : ∃ W, W = w.alloc (.cells #[.int .i64 0, .int .i64 0, .string ⟨#[]⟩, .slice none 0 0] 26) := ⟨_, rfl⟩
  have hA : Below w.heap.size w W := by rw [hW]; exact (Below.refl _ _).alloc (Nat.le_refl _) _
  have hB1 : W.heap[w.heap.size]? = some (.cells #[.int .i64 0, .int .i64 0, .string ⟨#[]⟩, .slice none 0 0] 26 (0, 0)) := by rw [hW]; exact heap_alloc_new w _
  have hWz : W.heap.size = w.heap.size + 1 := by rw [hW]; simp
  have hC := H p b off n cap zs at_ W hB (hr.later hA)
  have hpz := hr.lt
  have HRD : Hid (Rdr w p b off n cap zs at_ false) := hr
  rw [show (9 : Int) - ((m + 1 : Nat) : Int) = 8 - m from by omega]
  obtain ⟨dp, hdp⟩ : ∃ dp : Int, 8 - (m : Int) = dp := ⟨_, rfl⟩
  rw [hdp] at hC ⊢
  have hdp0 : 1 ≤ dp ∧ dp ≤ 8 := by omega
  rw [hW] at hC
  have HW : Hid (W = _) := hW
  clear hr hB H hdp hW
  go_enter Try.func21, Try.ntmps21
  go_wp2_with fail
  refine hC.mono ?_
  clear hC
  rintro e w1 ⟨f, k, x, s, a, l, c, rfl, HT, HP⟩
  rw [← HW.out] at HP
  have hz1 : W.heap.size ≤ w1.heap.size ∧ w1.heap[w.heap.size]? = W.heap[w.heap.size]? := by
    obtain ⟨_, _, _, h2, _⟩ := HP.out
    exact ⟨h2.size, h2.block _ (by omega) (by omega)⟩
  go_wp2_with fail
  refine (HT.out w1).mono ?_
  rintro e w2 ⟨rfl, hB2⟩
  have hh1 : w2.heap[w.heap.size]? = some (.cells #[.int .i64 0, .int .i64 0, .string ⟨#[]⟩, .slice none 0 0] 26 (0, 0)) := (hB2.block _ (by omega)).trans (hz1.2.trans hB1)
  have b0 : w2.cell? ⟨w.heap.size, 0, none⟩ = some (.int .i64 0) := by rw [cell_of_row w2 _ 0 _ _ _ hh1]; rfl
  have b1 : w2.cell? ⟨w.heap.size, 1, none⟩ = some (.int .i64 0) := by rw [cell_of_row w2 _ 1 _ _ _ hh1]; rfl
  have b2 : w2.cell? ⟨w.heap.size, 2, none⟩ = some (.string ⟨#[]⟩) := by rw [cell_of_row w2 _ 2 _ _ _ hh1]; rfl
  have b3 : w2.cell? ⟨w.heap.size, 3, none⟩ = some (.slice none 0 0) := by rw [cell_of_row w2 _ 3 _ _ _ hh1]; rfl
  have y0 : w2.frozen? ⟨w.heap.size, 0, none⟩ = false := frozen_of_row w2 _ 0 _ _ hh1
  have y1 : w2.frozen? ⟨w.heap.size, 1, none⟩ = false := frozen_of_row w2 _ 1 _ _ hh1
  have y2 : w2.frozen? ⟨w.heap.size, 2, none⟩ = false := frozen_of_row w2 _ 2 _ _ hh1
  have y3 : w2.frozen? ⟨w.heap.size, 3, none⟩ = false := frozen_of_row w2 _ 3 _ _ hh1
  have HM : Hid (∀ Z, Turned w.heap.size w2 Z → Post (m + 1) w Z p b off n cap zs at_ (.agg #[.int .i64 k, .int .i64 x, .string s, .slice a l c])) := fun Z hZ => post_move HRD.out hA hWz HP.out hB2 hZ
  clear hh1 hB2 HP HT hz1 hB1 HW hA HRD
  go_wp2_with fail
  refine bodyPost_ret (v := .agg #[.int .i64 k, .int .i64 x, .string s, .slice a l c]) (by simp [results, Try.results21, go_sem, b0, b1, b2, b3]) rfl ⟨k, x, s, a, l, c, rfl, HM.out _ ?_⟩
  exact (((Turned.of_set w2 _ _ _).trans (Turned.of_set _ _ _ _)).trans (Turned.of_set _ _ _ _)).trans (Turned.of_set _ _ _ _)

end Go.Proofs.Ytbllnmafilabpaa

/- The program's reading of a term, on: its parts. -/
namespace Go.Proofs.Ytbllnmafilabpaa
open Go.RowKit
set_option linter.unusedVariables false

/-- Where the reading of parts stands behind j of them. -/
def Mid (m B p b off n cap : Nat) (zs : List Int) (x q : Int) (w1 wr : World) (v : Value) (j : Nat) : Prop :=
  ∃ (at2 : Int) (bad2 : Bool), Rdr wr p b off n cap zs at2 bad2 ∧ Turned p w1 wr ∧ (∃ cs, wr.ownsRow B 26 4 v j cs) ∧
    (bad2 = false → ∃ (ts : List (Tm m)) (fp : List Nat), ts.length = j ∧ Made m B wr v ts fp ∧ CameL zs m j q ts at2 ∧ q + j ≤ at2 ∧ at2 ≤ n) ∧ (bad2 = true → getL (getT zs m) x.toNat q = none)

/-- One more of them. -/
theorem mid_step {m p b off n cap : Nat} {zs : List Int} {x q at2 : Int} {w1 wr w' w2 : World} {v v' : Value} {j : Nat} {ts : List (Tm m)} {fp : List Nat} {k y : Int} {s : ByteArray} {a : Option Addr} {l c : Nat} {cs : List Value}
    (hB : Bts n cap zs) (hpB : p < w1.heap.size) (hbB : 0 < n → b < w1.heap.size) (hr : Rdr wr p b off n cap zs at2 false) (ht : Turned p w1 wr) (hj : ts.length = j) (hM : Made m w1.heap.size wr v ts fp) (hcs : wr.ownsRow w1.heap.size 26 4 v j cs) (hC : CameL zs m j q ts at2) (hq : q + j ≤ at2) (hqn : at2 ≤ n) (hq0 : 0 ≤ q) (hjx : (j : Int) < x)
    (hP : Post m wr w' p b off n cap zs at2 (.agg #[.int .i64 k, .int .i64 y, .string s, .slice a l c]))
    (hown : w2.ownsRow w1.heap.size 26 4 v' (j + 1) (cs ++ [.int .i64 k, .int .i64 y, .string s, .slice a l c])) (hgr : (w'.alloc (.cells #[.int .i64 k, .int .i64 y, .string s, .slice a l c] 26)).grownBy w2 v.ownBlock)
    (hat : v'.ownBlock = v.ownBlock ∨ v'.ownBlock = some (w'.alloc (.cells #[.int .i64 k, .int .i64 y, .string s, .slice a l c] 26)).heap.size) : Mid m w1.heap.size p b off n cap zs x q w1 w2 v' (j + 1) := by
  obtain ⟨at3, bad3, h1, h2, h3, h4⟩ := hP
  obtain ⟨V, hV⟩ : ∃ V, V = w'.alloc (.cells #[.int .i64 k, .int .i64 y, .string s, .slice a l c] 26) := ⟨_, rfl⟩
  rw [← hV] at hgr hat
  have hA : Below w'.heap.size w' V := by rw [hV]; exact (Below.refl _ _).alloc (Nat.le_refl _) _
  have hz0 := ht.size
  have hz1 := h2.size
  have hz2 := hA.size
  have hz3 := hgr.size
  have hob : ∀ g, v.ownBlock = some g → w1.heap.size ≤ g ∧ g < wr.heap.size := fun g hg => by
    rcases hcs.2 with ⟨e, _⟩ | ⟨g', c', cur, e1, e2, e3, _⟩
    · rw [e] at hg; cases hg
    · rw [e1] at hg
      obtain rfl : g' = g := by simpa [Value.ownBlock] using hg
      exact ⟨e2, Nat.lt_of_not_le fun hn => by rw [Array.getElem?_eq_none hn] at e3; cases e3⟩
  have hpw := h1.lt
  have hk : ∀ g, g < w'.heap.size → some g ≠ v.ownBlock → w2.heap[g]? = w'.heap[g]? := fun g hg hn => (hgr.block g (by omega) hn).trans (hA.block g hg)
  have hno : ∀ g, g < w1.heap.size → some g ≠ v.ownBlock := fun g hg e => by have := (hob g e.symm).1; omega
  have hR2 : Rdr w2 p b off n cap zs at3 bad3 := ⟨(hk p hpw (hno p hpB)).trans h1.heap, fun i hi => by
    have hb := hbB (by omega)
    rw [World.cell?_of_block (a := ⟨b, off + i, none⟩) (hk b (by omega) (hno b hb))]
    exact h1.row i hi, h1.ne⟩
  have hT2 : Turned p w1 w2 := ⟨hgr.os.trans (hA.os.trans (h2.os.trans ht.os)), hgr.tape.trans (hA.tape.trans (h2.tape.trans ht.tape)), hgr.output.trans (hA.output.trans (h2.output.trans ht.output)), by omega,
    fun g hg hn => (hk g (by omega) (hno g hg)).trans ((h2.block g (by omega) hn).trans (ht.block g hg hn))⟩
  refine ⟨at3, bad3, hR2, hT2, ⟨_, hown⟩, fun hb => ?_, fun hb => ?_⟩
  · obtain ⟨t, f, q1, q2, q3, q4, q5, q6⟩ := h3 hb
    cases m with
    | zero => exact False.elim q1
    | succ m =>
      obtain ⟨a', l', c', ev, q1⟩ := q1
      obtain ⟨cs', fps, r1, r2, r3, r4, r5, r6⟩ := hM
      have hcc : cs' = cs := by
        rw [hj] at r1
        rcases r1.2 with ⟨e1, e2⟩ | ⟨g1, c1, cur1, e1, _, e3, _, _, _, e7⟩
        · have l1 := r1.1
          have l2 := hcs.1
          rw [e2] at l1 l2
          rw [List.length_eq_zero_iff.1 (show cs'.length = 0 by omega), List.length_eq_zero_iff.1 (show cs.length = 0 by omega)]
        · rcases hcs.2 with ⟨d1, d2⟩ | ⟨g2, c2, cur2, d1, _, d3, _, _, _, d7⟩
          · rw [d1] at e1; cases e1
          · rw [d1] at e1
            simp only [Value.slice.injEq, Option.some.injEq, Addr.mk.injEq, and_true, true_and] at e1
            obtain ⟨rfl, rfl⟩ := e1
            rw [e3] at d3
            simp only [Option.some.injEq, Obj.cells.injEq, and_true] at d3
            subst d3
            rw [← e7, ← d7]
      subst hcc
      simp only [Value.agg.injEq] at ev
      have ev2 : ([.int .i64 k, .int .i64 y, .string s, .slice a l c] : List Value) = [.int .i64 t.K, .int .i64 t.N, .string t.S, .slice a' l' c'] := by simpa using congrArg Array.toList ev
      rw [ev2] at hown
      subst hj
      have kp : ∀ g, g < wr.heap.size → g ≠ p → V.heap[g]? = wr.heap[g]? := fun g hg hn => (hA.block g (by omega)).trans (h2.block g hg hn)
      subst r3
      have hF : Fresh w1.heap.size V (v.ownBlock.toList ++ fps.flatten) := ⟨r4.1, fun g hg => ⟨(r4.2 g hg).1, by have := (r4.2 g hg).2; omega⟩⟩
      have hpn : ∀ g ∈ v.ownBlock.toList ++ fps.flatten, V.heap[g]? = wr.heap[g]? := fun g hg => kp g (r4.2 g hg).2 (by have := (r4.2 g hg).1; omega)
      obtain ⟨fp', hm, _⟩ := made_step (w := V) (t := t) (f := f) (rowKept r1 fun g hg => hpn g (List.mem_append_left _ (by rw [hg]; exact List.mem_singleton.2 rfl))) r2 hF r5 (r6.frame fun g hg => hpn g (List.mem_append_right _ hg))
        (q1.frame fun g hg => hA.block g (q2.2 g hg).2) ⟨q2.1, fun g hg => ⟨by have := (q2.2 g hg).1; omega, by have := (q2.2 g hg).2; omega⟩⟩ (fun g hg hf => by have := (q2.2 g hg).1; have := (r4.2 g hf).2; omega) q3 (by have := hB.le; omega) (by omega) hown hgr hat
      exact ⟨ts ++ [t], fp', by simp, hm, came_step hC q4, by omega, q6⟩
  · exact getL_none (came_fail hC (h4 hb)) (by omega)

theorem four_new (w : World) (a b c d : Value) (t : TypeId) : ∀ j u, [a, b, c, d][j]? = some u → (w.alloc (.cells #[a, b, c, d] t)).cell? ((⟨w.heap.size, 0, none⟩ : Addr).add j) = some u := by
  intro j u hj
  match j, hj with
  | 0, hj => simp at hj; subst hj; simp [Addr.add]
  | 1, hj => simp at hj; subst hj; simp [Addr.add]
  | 2, hj => simp at hj; subst hj; simp [Addr.add]
  | 3, hj => simp at hj; subst hj; simp [Addr.add]

theorem lt_of_row' {w : World} {g : Nat} {o : Obj} (h : w.heap[g]? = some o) : g < w.heap.size := Nat.lt_of_not_le fun hn => by rw [Array.getElem?_eq_none hn] at h; cases h

theorem row_slice {w : World} {B e z n : Nat} {v : Value} {xs : List Value} (h : w.ownsRow B e z v n xs) : ∃ a l c, v = .slice a l c := by
  rcases h.2 with ⟨e, _⟩ | ⟨g, c, cur, e1, _⟩
  · exact ⟨_, _, _, e⟩
  · exact ⟨_, _, _, e1⟩

set_option maxHeartbeats 2000000 in
theorem readParts_of (m : Nat) (hm : m ≤ 8) (H : RTC m) : RPC m := by
  intro p b off n cap zs at_ w hB hr
  have HBT : Hid (Bts n cap zs) := hB
  have HRD : Hid (Rdr w p b off n cap zs at_ false) := hr
  obtain ⟨dp, hdp⟩ : ∃ dp : Int, 9 - (m : Int) = dp := ⟨_, rfl⟩
  have HI : Hid (∀ (at_ : Int) (w : World), Rdr w p b off n cap zs at_ false →
      Calls Try.prog 21 #[.pointer (some ⟨p, 0, none⟩), .int .i64 dp] w fun e w' => ∃ k x s a l c, e = .returned (.agg #[.int .i64 k, .int .i64 x, .string s, .slice a l c]) ∧ Hid (Post m w w' p b off n cap zs at_ (.agg #[.int .i64 k, .int .i64 x, .string s, .slice a l c]))) := fun at_ w h => by
    rw [← hdp]
    exact H p b off n cap zs at_ w hB h
  rw [hdp]
  clear hdp H
  by_cases hg : (getNum zs at_).2.2 = true
  case neg =>
    have hC := num_bad p b off n cap zs at_ w hB hr hg
    have HN : Hid (¬ (getNum zs at_).2.2 = true) := hg
    clear hr hB hg HBT HRD HI
    go_enter Try.func53, Try.ntmps53
    go_wp2_with fail
    refine hC.mono ?_
    clear hC
    rintro e w1 ⟨rfl, hr1, ht1⟩
    have HP : Hid (Rdr w1 p b off n cap zs at_ true ∧ Turned p w w1) := ⟨hr1, ht1⟩
    clear hr1 ht1
    go_wp2_with fail
    refine wp_loop_rounds 1 ?_
    rw [rounds_succ]
    go_wp2_with fail
    go_ret
    exact ⟨none, 0, 0, rfl, ⟨at_, true, HP.out.1, HP.out.2, (fun e => Bool.noConfusion e), fun _ h => absurd h HN.out⟩⟩
  obtain ⟨x, q, hgx⟩ : ∃ x q, getNum zs at_ = (x, q, true) := ⟨(getNum zs at_).1, (getNum zs at_).2.1, by rw [← hg]⟩
  have hlt := getNum_lt zs at_ hg
  have hq0 := ((getNum_bd zs at_).1 hg).1
  rw [hgx] at hlt hq0
  obtain ⟨hq, hqn, hx0, hx1⟩ : at_ < q ∧ q ≤ zs.length ∧ -1000000000000 ≤ x ∧ x ≤ 1000000000000 := hlt
  have hq0 : 0 < q := hq0
  have HG : Hid (getNum zs at_ = (x, q, true)) := hgx
  have hC := num_ok p b off n cap zs at_ x q w hB hr hgx
  have hqn' : q ≤ n := by have := hB.len; omega
  clear hg hgx hr hB hqn
  go_enter Try.func53, Try.ntmps53
  go_wp2_with fail
  refine hC.mono ?_
  clear hC
  rintro e w1 ⟨rfl, hr1, ht1⟩
  have HR1 : Hid (Rdr w1 p b off n cap zs q false) := hr1
  have HT1 : Hid (Turned p w w1) := ht1
  by_cases hxn : x < 0
  · have z1 : w1.frozen? ⟨p, 2, none⟩ = false := frozen_of_row w1 _ _ _ _ hr1.heap
    have c2 : w1.cell? ⟨p, 2, none⟩ = some (.bool false) := by rw [cell_of_row w1 _ 2 _ _ _ hr1.heap]; rfl
    have HP : Hid (Rdr (w1.setCell ⟨p, 2, none⟩ (.bool true)) p b off n cap zs q true ∧ Turned p w (w1.setCell ⟨p, 2, none⟩ (.bool true))) := ⟨hr1.spoil, ht1.trans (Turned.of_set _ _ _ _)⟩
    have HX : Hid (0 ≤ (getNum zs at_).1 → False) := fun h => by rw [HG.out] at h; have : 0 ≤ x := h; omega
    clear hr1 ht1
    go_wp2_with fail
    refine wp_loop_rounds 1 ?_
    rw [rounds_succ]
    go_wp2_with fail
    go_ret
    exact ⟨none, 0, 0, rfl, ⟨q, true, HP.out.1, HP.out.2, (fun e => Bool.noConfusion e), fun _ _ h => (HX.out h).elim⟩⟩
  have hx0' : 0 ≤ x := by omega
  have hpz := hr1.lt
  have hbz : 0 < n → b < w1.heap.size := fun h => hr1.blt h
  have HBZ : Hid (0 < n → b < w1.heap.size) := hbz
  clear hr1 ht1 hbz
  go_wp2_with fail
  go_loopw [6, 7] (fun v i wr => ∃ j : Nat, (j : Int) ≤ x ∧ i = .int .i64 j ∧ Hid (Mid m w1.heap.size p b off n cap zs x q w1 wr v j)) (fun _ i _ => x.toNat - (intOf i).toNat)
  case atStart => exact ⟨0, by omega, rfl, q, false, HR1.out, Turned.refl _ _, ⟨[], rfl, .inl ⟨rfl, rfl⟩⟩, fun _ => ⟨[], [], rfl, made_nil m _ _, .inl rfl, by omega, hqn'⟩, fun e => Bool.noConfusion e⟩
  case round =>
    obtain ⟨j, hjx, rfl, HM⟩ := hrel
    obtain ⟨at2, bad2, hr2, ht2, ⟨cs, hcs⟩, hg2, hb2⟩ := HM.out
    have c2 : wr.cell? ⟨p, 2, none⟩ = some (.bool bad2) := by rw [cell_of_row wr _ 2 _ _ _ hr2.heap]; rfl
    cases bad2
    · obtain ⟨ts, fp, hj, hMd, hCm, hqj, hat2⟩ := hg2 rfl
      by_cases hlt : (j : Int) < x
      · have hC := HI.out at2 wr hr2
        have HMS : Hid (∀ (k y : Int) (s : ByteArray) (a : Option Addr) (l c : Nat) (w' w2 : World) (v' : Value), Post m wr w' p b off n cap zs at2 (.agg #[.int .i64 k, .int .i64 y, .string s, .slice a l c]) →
            w2.ownsRow w1.heap.size 26 4 v' (j + 1) (cs ++ [.int .i64 k, .int .i64 y, .string s, .slice a l c]) → (w'.alloc (.cells #[.int .i64 k, .int .i64 y, .string s, .slice a l c] 26)).grownBy w2 (Value.ownBlock u6) →
            (v'.ownBlock = Value.ownBlock u6 ∨ v'.ownBlock = some (w'.alloc (.cells #[.int .i64 k, .int .i64 y, .string s, .slice a l c] 26)).heap.size) → Mid m w1.heap.size p b off n cap zs x q w1 w2 v' (j + 1)) :=
          fun k y s a l c w' w2 v' g1 g2 g3 g4 => mid_step HBT.out hpz HBZ.out hr2 ht2 hj hMd hcs hCm hqj hat2 (by omega) hlt g1 g2 g3 g4
        have hcs2 : ∀ w', Turned p wr w' → w'.ownsRow w1.heap.size 26 4 u6 j cs := fun w' h => rowKept hcs fun g hg => by
          rcases hcs.2 with ⟨e, _⟩ | ⟨g', c', cur, e1, e2, e3, _⟩
          · rw [e] at hg; cases hg
          · rw [e1] at hg
            obtain rfl : g' = g := by simpa [Value.ownBlock] using hg
            exact h.block g' (lt_of_row' e3) (by omega)
        have HCS : Hid (∀ w', Turned p wr w' → w'.ownsRow w1.heap.size 26 4 u6 j cs) := hcs2
        have hjn : j ≤ 1048576 := by have := HBT.out.le; omega
        have hz1 : w1.heap.size ≤ wr.heap.size := ht2.size
        obtain ⟨i0, hi, hi0, hi1, hi2⟩ := info_parts Try.infoTerm
        clear hcs2 hg2 hb2 hMd hCm hcs hr2 ht2 hj HM hqj hat2
        go_wp2_with fail
        refine hC.mono ?_
        clear hC
        rintro e w' ⟨k, y, s, a, l, c, rfl, HP⟩
        have hT' : Turned p wr w' := by obtain ⟨_, _, _, h, _⟩ := HP.out; exact h
        have hown := HCS.out w' hT'
        have hz2 := hT'.size
        clear hT' HCS c2
        go_wp2_with (at_builtin; refine wpList_append_own_at _ rfl (.tmp 27) (.tmp 31) 24 rfl w1.heap.size 26 i0 (.agg #[.int .i64 0, .int .i64 0, .string ⟨#[]⟩, .slice none 0 0]) 4 56 Try.underlying24 hi hi0 hi1 hi2 rfl (by decide) _ _ _ rfl (hown.alloc _) ⟨w'.heap.size, 0, none⟩ 1 1 [.int .i64 k, .int .i64 y, .string s, .slice a l c] rfl rfl ?c1 ?c2 ?c3 ?c4 ?c5 ?_)
        case c1 => exact four_new _ _ _ _ _ _
        case c2 => intro u hu; simp at hu; rcases hu with rfl | rfl | rfl | rfl <;> rfl
        case c3 => unfold maxLen; omega
        case c4 => omega
        case c5 => simp; omega
        intro v' w2 hown2 hgrow2 _ hat
        have HM2 : Hid (Mid m w1.heap.size p b off n cap zs x q w1 w2 v' (j + 1)) := HMS.out k y s a l c w' w2 v' HP.out hown2 hgrow2 (by simpa using hat)
        clear hown hown2 hgrow2 hat HP HMS
        go_wp2_with fail
        go_roundw
        case rel => exact ⟨j + 1, by omega, by go_num, HM2⟩
        case measure => simp [intOf]; omega
      · have hjx2 : (j : Int) = x := by omega
        obtain ⟨a, l, c, fp', hv, q1, q2, q3⟩ := hMd.own
        have HP : Hid (PPost m w wr p b off n cap zs at_ a l c) := ⟨at2, false, hr2, HT1.out.trans ht2, fun _ => ⟨x, q, ts, fp', HG.out, hx0', by omega, by rw [← hv]; exact q1, ⟨q2.1, fun g hg => ⟨Nat.le_trans HT1.out.size (q2.2 g hg).1, (q2.2 g hg).2⟩⟩, q3, by rw [← hjx2, Int.toNat_natCast]; exact hCm, by omega, hat2⟩, fun e => Bool.noConfusion e⟩
        subst hv
        have hlt' : decide ((j : Int) < x) = false := by simp; omega
        clear hg2 hb2 hMd hCm hcs hr2 ht2 hj HM q1 q2 q3
        go_wp2_with fail
        go_ret
        exact ⟨a, l, c, rfl, HP⟩
    · have hnone := hb2 rfl
      obtain ⟨a, l, c, hv⟩ := row_slice hcs
      have HP : Hid (PPost m w wr p b off n cap zs at_ a l c) := ⟨at2, true, hr2, HT1.out.trans ht2, (fun e => Bool.noConfusion e), fun _ _ _ => by rw [HG.out]; exact hnone⟩
      subst hv
      clear hg2 hb2 hcs hr2 ht2 HM hnone
      by_cases hlt : (j : Int) < x
      · go_wp2_with fail
        go_ret
        exact ⟨a, l, c, rfl, HP⟩
      · go_wp2_with fail
        go_ret
        exact ⟨a, l, c, rfl, HP⟩

theorem readTerm_any : ∀ m, m ≤ 8 → RTC m := by
  intro m
  induction m with
  | zero => intro _; exact readTerm_zero
  | succ m ih => intro hm; exact readTerm_of m (by omega) (readForm_of m (by omega) (readParts_of m (by omega) (ih (by omega))))

end Go.Proofs.Ytbllnmafilabpaa

/- The program's GetTerm: the term that has these bytes and is right, or none. -/
namespace Go.Proofs.Ytbllnmafilabpaa
open Go.RowKit
set_option linter.unusedVariables false

/-- What GetTerm hands back. -/
def GPost (zs : List Int) (n : Nat) (w w' : World) (k x : Int) (s : ByteArray) (a : Option Addr) (l c : Nat) (ok : Bool) : Prop :=
  Below w.heap.size w w' ∧
  (ok = true → ∃ (ts : List (Tm 7)) (fp : List Nat), OwnL 7 w' (.slice a l c) ts fp ∧ Fresh w.heap.size w' fp ∧ WfL 7 ts ∧ I64 k ∧ I64 x ∧ s.size ≤ maxLen ∧ getT zs 8 0 = some (((k, x, s, ts) : Int × Int × ByteArray × List (Tm 7)), (n : Int)) ∧ Right 7 k x s ts 8 300) ∧
  (ok = false → k = 0 ∧ x = 0 ∧ s = ByteArray.empty ∧ a = none ∧ l = 0 ∧ c = 0 ∧ ¬ ∃ t : Tm 8, getT zs 8 0 = some (t, (n : Int)) ∧ Right 7 t.K t.N t.S t.L 8 300)

theorem gpost_no {zs : List Int} {n R : Nat} {w w3 Z : World} (h : Below w.heap.size w w3) (hR : w.heap.size ≤ R) (hZ : Turned R w3 Z) (hn : ¬ ∃ t : Tm 8, getT zs 8 0 = some (t, (n : Int)) ∧ Right 7 t.K t.N t.S t.L 8 300) : GPost zs n w Z 0 0 ByteArray.empty none 0 0 false :=
  ⟨h.trans (hZ.below hR h.size), (fun e => Bool.noConfusion e), fun _ => ⟨rfl, rfl, rfl, rfl, rfl, rfl, hn⟩⟩

theorem turned_below {p : Nat} {w V w1 : World} (hV : Below w.heap.size w V) (hT : Turned p V w1) (hp : w.heap.size ≤ p) : Below w.heap.size w w1 := hV.trans (hT.below hp hV.size)

set_option maxHeartbeats 2000000 in
theorem getTerm_any (b off n cap : Nat) (zs : List Int) (w : World) (hB : Bts n cap zs) (hbz : b < w.heap.size) (hrow : ∀ i, i < n → w.cell? ⟨b, off + i, none⟩ = some (.int .u8 (zs.getD i 0))) :
    Calls Try.prog 10 #[.slice (some ⟨b, off, none⟩) n cap] w fun e w' => ∃ k x s a l c ok, e = .returned (.tuple #[.agg #[.int .i64 k, .int .i64 x, .string s, .slice a l c], .bool ok]) ∧ GPost zs n w w' k x s a l c ok := by
  obtain ⟨U, hU⟩ : ∃ U, U = w.alloc (.cells #[.int .i64 0, .int .i64 0, .string ⟨#[]⟩, .slice none 0 0] 26) := ⟨_, rfl⟩
  have hUz : U.heap.size = w.heap.size + 1 := by rw [hU]; simp
  have hUA : Below w.heap.size w U := by rw [hU]; exact (Below.refl _ _).alloc (Nat.le_refl _) _
  have hU1 : U.heap[w.heap.size]? = some (.cells #[.int .i64 0, .int .i64 0, .string ⟨#[]⟩, .slice none 0 0] 26 (0, 0)) := by rw [hU]; exact heap_alloc_new w _
  obtain ⟨V, hV⟩ : ∃ V, V = U.alloc (.cells #[.slice (some ⟨b, off, none⟩) n cap, .int .i64 0, .bool false] 47) := ⟨_, rfl⟩
  have hVz : V.heap.size = w.heap.size + 2 := by rw [hV]; simp [hUz]
  have hVA : Below U.heap.size U V := by rw [hV]; exact (Below.refl _ _).alloc (Nat.le_refl _) _
  have hV1 : V.heap[w.heap.size + 1]? = some (.cells #[.slice (some ⟨b, off, none⟩) n cap, .int .i64 0, .bool false] 47 (0, 0)) := by rw [hV, ← hUz]; exact heap_alloc_new U _
  have hV0 : V.heap[w.heap.size]? = some (.cells #[.int .i64 0, .int .i64 0, .string ⟨#[]⟩, .slice none 0 0] 26 (0, 0)) := (hVA.block _ (by omega)).trans hU1
  have hwV : Below w.heap.size w V := hUA.trans (hVA.mono hUA.size)
  have hR : Rdr V (w.heap.size + 1) b off n cap zs 0 false := ⟨hV1, fun i hi => cell_later hwV (hrow i hi), by omega⟩
  have hC := readTerm_any 8 (by omega) (w.heap.size + 1) b off n cap zs 0 V hB hR
  rw [show (9 : Int) - ((8 : Nat) : Int) = 1 from by omega, hV, hU] at hC
  have HU : Hid (U = _) := hU
  have HV : Hid (V = _) := hV
  clear hU hV hR hrow hU1 hV1 hUA hVA
  go_enter Try.func10, Try.ntmps10
  go_wp2_with fail
  refine hC.mono ?_
  clear hC
  rintro e w1 ⟨k, x, s, a, l, c, rfl, hP⟩
  rw [← HU.out, ← HV.out] at hP
  obtain ⟨at', bad, h1, h2, h3, h4⟩ := hP
  obtain ⟨w2, hw2⟩ : ∃ w2, w2 = w1.alloc (.cells #[.int .i64 k, .int .i64 x, .string s, .slice a l c] 26) := ⟨_, rfl⟩
  have h12 : Below w1.heap.size w1 w2 := by rw [hw2]; exact (Below.refl _ _).alloc (Nat.le_refl _) _
  have hz2 : w2.heap.size = w1.heap.size + 1 := by rw [hw2]; simp
  have hz1 : V.heap.size ≤ w1.heap.size := h2.size
  have hwb1 : Below w.heap.size w w1 := turned_below hwV h2 (by omega)
  have hwb2 : Below w.heap.size w w2 := hwb1.trans (h12.mono hwb1.size)
  have hRes : w2.heap[w.heap.size]? = some (.cells #[.int .i64 0, .int .i64 0, .string ⟨#[]⟩, .slice none 0 0] 26 (0, 0)) := (h12.block _ (by omega)).trans ((h2.block _ (by omega) (by omega)).trans hV0)
  have hT2 : w2.heap[w1.heap.size]? = some (.cells #[.int .i64 k, .int .i64 x, .string s, .slice a l c] 26 (0, 0)) := by rw [hw2]; exact heap_alloc_new w1 _
  have r1 : w1.cell? ⟨w.heap.size + 1, 1, none⟩ = some (.int .i64 at') := by rw [cell_of_row w1 _ 1 _ _ _ h1.heap]; rfl
  have r2 : w1.cell? ⟨w.heap.size + 1, 2, none⟩ = some (.bool bad) := by rw [cell_of_row w1 _ 2 _ _ _ h1.heap]; rfl
  have hpz : w.heap.size + 1 < w1.heap.size := h1.lt
  have b0 : w2.cell? ⟨w.heap.size, 0, none⟩ = some (.int .i64 0) := by rw [cell_of_row w2 _ 0 _ _ _ hRes]; rfl
  have b1 : w2.cell? ⟨w.heap.size, 1, none⟩ = some (.int .i64 0) := by rw [cell_of_row w2 _ 1 _ _ _ hRes]; rfl
  have b2 : w2.cell? ⟨w.heap.size, 2, none⟩ = some (.string ⟨#[]⟩) := by rw [cell_of_row w2 _ 2 _ _ _ hRes]; rfl
  have b3 : w2.cell? ⟨w.heap.size, 3, none⟩ = some (.slice none 0 0) := by rw [cell_of_row w2 _ 3 _ _ _ hRes]; rfl
  have y0 : w2.frozen? ⟨w.heap.size, 0, none⟩ = false := frozen_of_row w2 _ 0 _ _ hRes
  have y1 : w2.frozen? ⟨w.heap.size, 1, none⟩ = false := frozen_of_row w2 _ 1 _ _ hRes
  have y2 : w2.frozen? ⟨w.heap.size, 2, none⟩ = false := frozen_of_row w2 _ 2 _ _ hRes
  have y3 : w2.frozen? ⟨w.heap.size, 3, none⟩ = false := frozen_of_row w2 _ 3 _ _ hRes
  have HW2 : Hid (w2 = _) := hw2
  have HO : Hid (Bts n cap zs) := hB
  rw [hw2] at b0 b1 b2 b3 y0 y1 y2 y3
  clear HU HV hB h1 hV0
  by_cases hbad : bad = true
  · subst hbad
    have hN : getT zs 8 0 = none := h4 rfl
    have HF : Hid (∀ Z, Turned w.heap.size (w1.alloc (.cells #[.int .i64 k, .int .i64 x, .string s, .slice a l c] 26)) Z → GPost zs n w Z 0 0 ByteArray.empty none 0 0 false) := fun Z hZ => by
      rw [← HW2.out] at hZ
      exact gpost_no hwb2 (Nat.le_refl _) hZ (fun ⟨t, ht, _⟩ => by rw [hN] at ht; cases ht)
    clear h3 h4 hN hw2 hRes hT2 HW2
    go_wp2_with fail
    refine bodyPost_ret (v := .tuple #[.agg #[.int .i64 0, .int .i64 0, .string ByteArray.empty, .slice none 0 0], .bool false]) (by first | (simp [results, Try.results10, go_sem, b0, b1, b2, b3]; done) | (simp [results, Try.results10, go_sem, b0, b1, b2, b3]; rfl)) rfl ⟨0, 0, ByteArray.empty, none, 0, 0, false, rfl, HF.out _ ?_⟩
    exact (((Turned.of_set _ _ _ _).trans (Turned.of_set _ _ _ _)).trans (Turned.of_set _ _ _ _)).trans (Turned.of_set _ _ _ _)
  have hbf : bad = false := by simpa using hbad
  subst hbf
  obtain ⟨t, fp, q1, q2, q3, q4, q5, q6⟩ := h3 rfl
  obtain ⟨a', l', c', ev, q1⟩ := q1
  simp only [Value.agg.injEq] at ev
  have ev2 : ([.int .i64 k, .int .i64 x, .string s, .slice a l c] : List Value) = [.int .i64 t.K, .int .i64 t.N, .string t.S, .slice a' l' c'] := by simpa using congrArg Array.toList ev
  simp only [List.cons.injEq, Value.int.injEq, Value.string.injEq, Value.slice.injEq, true_and, and_true] at ev2
  obtain ⟨rfl, rfl, rfl, rfl, rfl, rfl⟩ := ev2
  clear h3 h4 hbad ev
  by_cases hn : at' = (n : Int)
  case neg =>
    have HF : Hid (∀ Z, Turned w.heap.size (w1.alloc (.cells #[.int .i64 t.K, .int .i64 t.N, .string t.S, .slice a l c] 26)) Z → GPost zs n w Z 0 0 ByteArray.empty none 0 0 false) := fun Z hZ => by
      rw [← HW2.out] at hZ
      refine gpost_no hwb2 (Nat.le_refl _) hZ (fun ⟨u, hu, _⟩ => ?_)
      rcases q4 with q4 | ⟨q4, _⟩
      · rw [hu] at q4
        simp only [Option.some.injEq, Prod.mk.injEq] at q4
        exact hn q4.2.symm
      · rw [hu] at q4; cases q4
    have hne : (at' != (n : Int)) = true := by simp [hn]
    clear hw2 hRes hT2 HW2 q1 q2 q3 q4 q5 q6 hn
    go_wp2_with fail
    refine bodyPost_ret (v := .tuple #[.agg #[.int .i64 0, .int .i64 0, .string ByteArray.empty, .slice none 0 0], .bool false]) (by first | (simp [results, Try.results10, go_sem, b0, b1, b2, b3]; done) | (simp [results, Try.results10, go_sem, b0, b1, b2, b3]; rfl)) rfl ⟨0, 0, ByteArray.empty, none, 0, 0, false, rfl, HF.out _ ?_⟩
    exact (((Turned.of_set _ _ _ _).trans (Turned.of_set _ _ _ _)).trans (Turned.of_set _ _ _ _)).trans (Turned.of_set _ _ _ _)
  subst hn
  have hrd2 : RdL 7 w2 (.slice a l c) t.L := (q1.frame fun g hg => h12.block g (q2.2 g hg).2).rd
  have hC := termOk_any 7 t.K t.N t.S _ t.L w2 hrd2 q3.2.2.2 (Nat.le_trans q3.2.2.1 (by decide))
  rw [hw2] at hC
  have hne : ((n : Int) != (n : Int)) = false := by simp
  have HQ : Hid (OwnL 7 w1 (.slice a l c) t.L fp ∧ Fresh V.heap.size w1 fp ∧ WfT 8 t ∧ Came zs 8 0 t n) := ⟨q1, q2, q3, q4⟩
  clear hrd2 q1 q2 q3 q4 hw2
  go_wp2_with fail
  refine hC.mono ?_
  clear hC b0 b1 b2 b3 y0 y1 y2 y3 r1 r2
  rintro e w3 ⟨ok, rfl, hok, h23⟩
  rw [← HW2.out] at h23
  have hRes3 := (h23.block _ (by omega)).trans hRes
  have hT3 := (h23.block _ (by omega)).trans hT2
  have hwb3 : Below w.heap.size w w3 := hwb2.trans (h23.mono hwb2.size)
  have b0 : w3.cell? ⟨w.heap.size, 0, none⟩ = some (.int .i64 0) := by rw [cell_of_row w3 _ 0 _ _ _ hRes3]; rfl
  have b1 : w3.cell? ⟨w.heap.size, 1, none⟩ = some (.int .i64 0) := by rw [cell_of_row w3 _ 1 _ _ _ hRes3]; rfl
  have b2 : w3.cell? ⟨w.heap.size, 2, none⟩ = some (.string ⟨#[]⟩) := by rw [cell_of_row w3 _ 2 _ _ _ hRes3]; rfl
  have b3 : w3.cell? ⟨w.heap.size, 3, none⟩ = some (.slice none 0 0) := by rw [cell_of_row w3 _ 3 _ _ _ hRes3]; rfl
  have y0 : w3.frozen? ⟨w.heap.size, 0, none⟩ = false := frozen_of_row w3 _ 0 _ _ hRes3
  have y1 : w3.frozen? ⟨w.heap.size, 1, none⟩ = false := frozen_of_row w3 _ 1 _ _ hRes3
  have y2 : w3.frozen? ⟨w.heap.size, 2, none⟩ = false := frozen_of_row w3 _ 2 _ _ hRes3
  have y3 : w3.frozen? ⟨w.heap.size, 3, none⟩ = false := frozen_of_row w3 _ 3 _ _ hRes3
  have t0 : w3.cell? ⟨w1.heap.size, 0, none⟩ = some (.int .i64 t.K) := by rw [cell_of_row w3 _ 0 _ _ _ hT3]; rfl
  have t1 : w3.cell? ⟨w1.heap.size, 1, none⟩ = some (.int .i64 t.N) := by rw [cell_of_row w3 _ 1 _ _ _ hT3]; rfl
  have t2 : w3.cell? ⟨w1.heap.size, 2, none⟩ = some (.string t.S) := by rw [cell_of_row w3 _ 2 _ _ _ hT3]; rfl
  have t3 : w3.cell? ⟨w1.heap.size, 3, none⟩ = some (.slice a l c) := by rw [cell_of_row w3 _ 3 _ _ _ hT3]; rfl
  cases ok
  · have hNR : ¬ Right 7 t.K t.N t.S t.L 8 300 := fun h => by have := hok.2 h; cases this
    have HF : Hid (∀ Z, Turned w.heap.size w3 Z → GPost zs n w Z 0 0 ByteArray.empty none 0 0 false) := fun Z hZ => by
      refine gpost_no hwb3 (Nat.le_refl _) hZ (fun ⟨u, hu, hur⟩ => ?_)
      rcases HQ.out.2.2.2 with q4 | ⟨q4, _⟩
      · rw [hu] at q4
        simp only [Option.some.injEq, Prod.mk.injEq, and_true] at q4
        rw [q4] at hur
        exact hNR hur
      · rw [hu] at q4; cases q4
    clear hok hNR HQ hRes3 hT3 hRes hT2 h23 HW2 t0 t1 t2 t3
    go_wp2_with fail
    refine bodyPost_ret (v := .tuple #[.agg #[.int .i64 0, .int .i64 0, .string ByteArray.empty, .slice none 0 0], .bool false]) (by first | (simp [results, Try.results10, go_sem, b0, b1, b2, b3]; done) | (simp [results, Try.results10, go_sem, b0, b1, b2, b3]; rfl)) rfl ⟨0, 0, ByteArray.empty, none, 0, 0, false, rfl, HF.out _ ?_⟩
    exact (((Turned.of_set _ _ _ _).trans (Turned.of_set _ _ _ _)).trans (Turned.of_set _ _ _ _)).trans (Turned.of_set _ _ _ _)
  · have hRt : Right 7 t.K t.N t.S t.L 8 300 := hok.1 rfl
    have HF : Hid (∀ Z, Turned w.heap.size w3 Z → GPost zs n w Z t.K t.N t.S a l c true) := fun Z hZ => by
      obtain ⟨q1, q2, q3, q4⟩ := HQ.out
      have hk : ∀ g ∈ fp, Z.heap[g]? = w1.heap[g]? := fun g hg => by
        have g1 := q2.2 g hg
        exact (hZ.block g (by have := h23.size; omega) (by omega)).trans ((h23.block g (by omega)).trans (h12.block g g1.2))
      refine ⟨hwb3.trans (hZ.below (Nat.le_refl _) hwb3.size), fun _ => ⟨t.L, fp, q1.frame hk, ⟨q2.1, fun g hg => ⟨by have := (q2.2 g hg).1; omega, by have := (q2.2 g hg).2; have := h23.size; have := hZ.size; omega⟩⟩, q3.2.2.2, q3.1, q3.2.1, q3.2.2.1, ?_, hRt⟩, (fun e => Bool.noConfusion e)⟩
      rcases q4 with q4 | ⟨_, q5⟩
      · exact q4
      · exact absurd ⟨hRt.1, hRt.2.1⟩ q5
    clear hok hRt HQ hRes3 hT3 hRes hT2 h23 HW2
    go_wp2_with fail
    refine bodyPost_ret (v := .tuple #[.agg #[.int .i64 t.K, .int .i64 t.N, .string t.S, .slice a l c], .bool true]) (by first | (simp [results, Try.results10, go_sem, b0, b1, b2, b3]; done) | (simp [results, Try.results10, go_sem, b0, b1, b2, b3]; rfl)) rfl ⟨t.K, t.N, t.S, a, l, c, true, rfl, HF.out _ ?_⟩
    exact (((Turned.of_set _ _ _ _).trans (Turned.of_set _ _ _ _)).trans (Turned.of_set _ _ _ _)).trans (Turned.of_set _ _ _ _)

end Go.Proofs.Ytbllnmafilabpaa
