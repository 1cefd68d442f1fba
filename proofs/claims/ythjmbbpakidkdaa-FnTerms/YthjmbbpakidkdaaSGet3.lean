/- The model's reading of a term, on: its kinds. -/
import Derived.Test.YthjmbbpakidkdaaSGet2
namespace Go.Proofs.Ythjmbbpakidkdaa
open Go.RowKit
set_option linter.unusedVariables false

set_option maxHeartbeats 1000000 in
theorem specGet_1 (m : Nat) (hm : m ≤ 7) (b off n cap : Nat) (zs : List Int) (at_ q : Int) (w : World) (hB : Bts n cap zs) (hrow : ∀ i, i < n → w.cell? ⟨b, off + i, none⟩ = some (.int .u8 (zs.getD i 0))) (hg : getNum zs at_ = (1, q, true)) :
    Calls Try.prog 79 #[.slice (some ⟨b, off, none⟩) n cap, .int .i64 at_, .int .i64 (m + 1 : Nat)] w fun e w' => ∃ k x s a l c q ok, e = .returned (.tuple #[.agg #[.int .i64 k, .int .i64 x, .string s, .slice a l c], .int .i64 q, .bool ok]) ∧ Hid (SPost (m + 1) w w' n zs at_ (.agg #[.int .i64 k, .int .i64 x, .string s, .slice a l c]) q ok) := by
  have HN : Hid _ := num_later hB hrow
  have hlt := getNum_lt zs at_ (by rw [hg])
  rw [hg] at hlt
  obtain ⟨x, r, ok, hgx⟩ : ∃ x r ok, getNum zs q = (x, r, ok) := ⟨_, _, _, rfl⟩
  have HP : Hid (∀ Z, Below w.heap.size w Z → SPost (m + 1) w Z n zs at_ (.agg #[.int .i64 1, .int .i64 x, .string ByteArray.empty, .slice none 0 0]) r ok) := fun Z hZ => by
    have hbd := getNum_bd zs q
    rw [hgx] at hbd
    cases ok
    · refine spost_no hZ ?_
      rw [getT_at hg]; unfold getB; rw [if_pos (.inl rfl), hgx, if_neg (by simp)]; rfl
    · have hl2 := getNum_lt zs q (by rw [hgx])
      rw [hgx] at hl2
      refine spost_leaf hZ ⟨by omega, by omega⟩ ⟨by have : -1000000000000 ≤ x := hl2.2.2.1; omega, by have : x ≤ 1000000000000 := hl2.2.2.2; omega⟩ (Nat.zero_le _) (by have : q < r := hl2.1; have : at_ < q := hlt.1; omega) (by have : r ≤ zs.length := hl2.2.1; have := hB.len; omega) ?_
      rw [getT_at hg]; unfold getB; rw [if_pos (.inl rfl), hgx]; rfl
  have hdp : (1 : Int) ≤ ((m + 1 : Nat) : Int) ∧ ((m + 1 : Nat) : Int) ≤ 8 := by omega
  obtain ⟨dp, hdpe⟩ : ∃ dp : Int, ((m + 1 : Nat) : Int) = dp := ⟨_, rfl⟩
  rw [hdpe] at hdp ⊢
  have HG : Hid (getNum zs at_ = (1, q, true)) := hg
  have HGX : Hid (getNum zs q = (x, r, ok)) := hgx
  have hA : ∀ o, Below w.heap.size w (w.alloc o) := fun o => (Below.refl _ _).alloc (Nat.le_refl _) _
  clear hg hgx hlt hB hrow hdpe
  go_enter Try.func79, Try.ntmps79
  go_wp2_with fail
  refine (HN.out _ _ _ _ _ (hA _) HG.out).mono ?_
  rintro e w' ⟨rfl, rfl⟩
  go_wp2_with fail
  refine (HN.out _ _ _ _ _ (two_below _ _ _) HGX.out).mono ?_
  rintro e w' ⟨rfl, rfl⟩
  go_wp2_with fail
  refine bodyPost_ret (v := .tuple #[.agg #[.int .i64 1, .int .i64 x, .string ByteArray.empty, .slice none 0 0], .int .i64 r, .bool ok]) (by first | (simp [results, Try.results79, go_sem]; done) | (simp [results, Try.results79, go_sem]; rfl)) rfl ⟨1, x, ByteArray.empty, none, 0, 0, r, ok, rfl, HP.out _ ?_⟩
  first | exact two_below _ _ _ | (refine set_below (set_below (set_below (set_below (two_below _ _ _) _ _ _ ?_) _ _ _ ?_) _ _ _ ?_) _ _ _ ?_ <;> (try simp)) | (trace_state; done)

set_option maxHeartbeats 1000000 in
theorem specGet_3 (m : Nat) (hm : m ≤ 7) (b off n cap : Nat) (zs : List Int) (at_ q : Int) (w : World) (hB : Bts n cap zs) (hrow : ∀ i, i < n → w.cell? ⟨b, off + i, none⟩ = some (.int .u8 (zs.getD i 0))) (hg : getNum zs at_ = (3, q, true)) :
    Calls Try.prog 79 #[.slice (some ⟨b, off, none⟩) n cap, .int .i64 at_, .int .i64 (m + 1 : Nat)] w fun e w' => ∃ k x s a l c q ok, e = .returned (.tuple #[.agg #[.int .i64 k, .int .i64 x, .string s, .slice a l c], .int .i64 q, .bool ok]) ∧ Hid (SPost (m + 1) w w' n zs at_ (.agg #[.int .i64 k, .int .i64 x, .string s, .slice a l c]) q ok) := by
  have HN : Hid _ := num_later hB hrow
  have hlt := getNum_lt zs at_ (by rw [hg])
  rw [hg] at hlt
  obtain ⟨x, r, ok, hgx⟩ : ∃ x r ok, getNum zs q = (x, r, ok) := ⟨_, _, _, rfl⟩
  have HP : Hid (∀ Z, Below w.heap.size w Z → SPost (m + 1) w Z n zs at_ (.agg #[.int .i64 3, .int .i64 x, .string ByteArray.empty, .slice none 0 0]) r ok) := fun Z hZ => by
    have hbd := getNum_bd zs q
    rw [hgx] at hbd
    cases ok
    · refine spost_no hZ ?_
      rw [getT_at hg]; unfold getB; rw [if_pos (.inr rfl), hgx, if_neg (by simp)]; rfl
    · have hl2 := getNum_lt zs q (by rw [hgx])
      rw [hgx] at hl2
      refine spost_leaf hZ ⟨by omega, by omega⟩ ⟨by have : -1000000000000 ≤ x := hl2.2.2.1; omega, by have : x ≤ 1000000000000 := hl2.2.2.2; omega⟩ (Nat.zero_le _) (by have : q < r := hl2.1; have : at_ < q := hlt.1; omega) (by have : r ≤ zs.length := hl2.2.1; have := hB.len; omega) ?_
      rw [getT_at hg]; unfold getB; rw [if_pos (.inr rfl), hgx]; rfl
  have hdp : (1 : Int) ≤ ((m + 1 : Nat) : Int) ∧ ((m + 1 : Nat) : Int) ≤ 8 := by omega
  obtain ⟨dp, hdpe⟩ : ∃ dp : Int, ((m + 1 : Nat) : Int) = dp := ⟨_, rfl⟩
  rw [hdpe] at hdp ⊢
  have HG : Hid (getNum zs at_ = (3, q, true)) := hg
  have HGX : Hid (getNum zs q = (x, r, ok)) := hgx
  have hA : ∀ o, Below w.heap.size w (w.alloc o) := fun o => (Below.refl _ _).alloc (Nat.le_refl _) _
  clear hg hgx hlt hB hrow hdpe
  go_enter Try.func79, Try.ntmps79
  go_wp2_with fail
  refine (HN.out _ _ _ _ _ (hA _) HG.out).mono ?_
  rintro e w' ⟨rfl, rfl⟩
  go_wp2_with fail
  refine (HN.out _ _ _ _ _ (two_below _ _ _) HGX.out).mono ?_
  rintro e w' ⟨rfl, rfl⟩
  go_wp2_with fail
  refine bodyPost_ret (v := .tuple #[.agg #[.int .i64 3, .int .i64 x, .string ByteArray.empty, .slice none 0 0], .int .i64 r, .bool ok]) (by first | (simp [results, Try.results79, go_sem]; done) | (simp [results, Try.results79, go_sem]; rfl)) rfl ⟨3, x, ByteArray.empty, none, 0, 0, r, ok, rfl, HP.out _ ?_⟩
  first | exact two_below _ _ _ | (refine set_below (set_below (set_below (set_below (two_below _ _ _) _ _ _ ?_) _ _ _ ?_) _ _ _ ?_) _ _ _ ?_ <;> (try simp)) | (trace_state; done)

set_option maxHeartbeats 1000000 in
theorem specGet_2 (m : Nat) (hm : m ≤ 7) (b off n cap : Nat) (zs : List Int) (at_ q : Int) (w : World) (hB : Bts n cap zs) (hrow : ∀ i, i < n → w.cell? ⟨b, off + i, none⟩ = some (.int .u8 (zs.getD i 0))) (hg : getNum zs at_ = (2, q, true)) :
    Calls Try.prog 79 #[.slice (some ⟨b, off, none⟩) n cap, .int .i64 at_, .int .i64 (m + 1 : Nat)] w fun e w' => ∃ k x s a l c q ok, e = .returned (.tuple #[.agg #[.int .i64 k, .int .i64 x, .string s, .slice a l c], .int .i64 q, .bool ok]) ∧ Hid (SPost (m + 1) w w' n zs at_ (.agg #[.int .i64 k, .int .i64 x, .string s, .slice a l c]) q ok) := by
  have HN : Hid _ := num_later hB hrow
  have HT : Hid _ := text_later hB hrow
  have hlt := getNum_lt zs at_ (by rw [hg])
  rw [hg] at hlt
  obtain ⟨x, r, ok, hgx⟩ : ∃ x r ok, getText zs q = (x, r, ok) := ⟨_, _, _, rfl⟩
  have HP : Hid (∀ Z, Below w.heap.size w Z → SPost (m + 1) w Z n zs at_ (.agg #[.int .i64 2, .int .i64 0, .string (strOfNums x), .slice none 0 0]) r ok) := fun Z hZ => by
    cases ok
    · refine spost_no hZ ?_
      rw [getT_at hg]; unfold getB; rw [if_neg (by omega), if_pos rfl, hgx, if_neg (by simp)]; rfl
    · have hl2 := getText_lt zs q (by rw [hgx])
      rw [hgx] at hl2
      refine spost_leaf hZ ⟨by omega, by omega⟩ ⟨by omega, by omega⟩ (by have : x.length ≤ zs.length := hl2.2.2; have := hB.len; have := hB.le; rw [strOfNums_size]; unfold maxLen; omega) (by have : q < r := hl2.1; have : at_ < q := hlt.1; omega) (by have : r ≤ zs.length := hl2.2.1; have := hB.len; omega) ?_
      rw [getT_at hg]; unfold getB; rw [if_neg (by omega), if_pos rfl, hgx]; rfl
  have hdp : (1 : Int) ≤ ((m + 1 : Nat) : Int) ∧ ((m + 1 : Nat) : Int) ≤ 8 := by omega
  obtain ⟨dp, hdpe⟩ : ∃ dp : Int, ((m + 1 : Nat) : Int) = dp := ⟨_, rfl⟩
  rw [hdpe] at hdp ⊢
  have HG : Hid (getNum zs at_ = (2, q, true)) := hg
  have HGX : Hid (getText zs q = (x, r, ok)) := hgx
  have hA : ∀ o, Below w.heap.size w (w.alloc o) := fun o => (Below.refl _ _).alloc (Nat.le_refl _) _
  clear hg hgx hlt hB hrow hdpe
  go_enter Try.func79, Try.ntmps79
  go_wp2_with fail
  refine (HN.out _ _ _ _ _ (hA _) HG.out).mono ?_
  rintro e w' ⟨rfl, rfl⟩
  go_wp2_with fail
  refine (HT.out _ _ _ _ _ (two_below _ _ _) HGX.out).mono ?_
  rintro e w' ⟨rfl, rfl⟩
  go_wp2_with fail
  refine bodyPost_ret (v := .tuple #[.agg #[.int .i64 2, .int .i64 0, .string (strOfNums x), .slice none 0 0], .int .i64 r, .bool ok]) (by first | (simp [results, Try.results79, go_sem]; done) | (simp [results, Try.results79, go_sem]; rfl)) rfl ⟨2, 0, strOfNums x, none, 0, 0, r, ok, rfl, HP.out _ ?_⟩
  first | exact two_below _ _ _ | (refine set_below (set_below (set_below (set_below (two_below _ _ _) _ _ _ ?_) _ _ _ ?_) _ _ _ ?_) _ _ _ ?_ <;> (try simp)) | (trace_state; done)

set_option maxHeartbeats 2000000 in
theorem specGet_list (m : Nat) (hm : m ≤ 7) (H : SGC m) (b off n cap : Nat) (zs : List Int) (at_ k q : Int) (w : World) (hB : Bts n cap zs) (hrow : ∀ i, i < n → w.cell? ⟨b, off + i, none⟩ = some (.int .u8 (zs.getD i 0))) (hg : getNum zs at_ = (k, q, true)) (hk : ¬ k = 1 ∧ ¬ k = 3 ∧ ¬ k = 2) :
    Calls Try.prog 79 #[.slice (some ⟨b, off, none⟩) n cap, .int .i64 at_, .int .i64 (m + 1 : Nat)] w fun e w' => ∃ k x s a l c q ok, e = .returned (.tuple #[.agg #[.int .i64 k, .int .i64 x, .string s, .slice a l c], .int .i64 q, .bool ok]) ∧ Hid (SPost (m + 1) w w' n zs at_ (.agg #[.int .i64 k, .int .i64 x, .string s, .slice a l c]) q ok) := by
  have HN : Hid _ := num_later hB hrow
  have hlt := getNum_lt zs at_ (by rw [hg])
  rw [hg] at hlt
  obtain ⟨hq, hqn, hk0, hk1⟩ : at_ < q ∧ q ≤ zs.length ∧ -1000000000000 ≤ k ∧ k ≤ 1000000000000 := hlt
  obtain ⟨x, r, ok, hgx⟩ : ∃ x r ok, getNum zs q = (x, r, ok) := ⟨_, _, _, rfl⟩
  have hdp : (1 : Int) ≤ ((m + 1 : Nat) : Int) ∧ ((m + 1 : Nat) : Int) ≤ 8 := by omega
  have hdm : ((m + 1 : Nat) : Int) - 1 = m := by omega
  obtain ⟨dp, hdpe⟩ : ∃ dp : Int, ((m + 1 : Nat) : Int) = dp := ⟨_, rfl⟩
  rw [hdpe] at hdp hdm ⊢
  have HG : Hid (getNum zs at_ = (k, q, true)) := hg
  have HGX : Hid (getNum zs q = (x, r, ok)) := hgx
  have HK : Hid (¬ k = 1 ∧ ¬ k = 3 ∧ ¬ k = 2) := hk
  have hA : ∀ o, Below w.heap.size w (w.alloc o) := fun o => (Below.refl _ _).alloc (Nat.le_refl _) _
  have e1 : (k == 1) = false := by simp [hk.1]
  have e2 : (k == 2) = false := by simp [hk.2.2]
  have e3 : (k == 3) = false := by simp [hk.2.1]
  have HBT : Hid (Bts n cap zs) := hB
  have HI : Hid (∀ (at_ : Int) (X : World), Below w.heap.size w X → Calls Try.prog 79 #[.slice (some ⟨b, off, none⟩) n cap, .int .i64 at_, .int .i64 (dp - 1)] X fun e w' => ∃ k x s a l c q ok, e = .returned (.tuple #[.agg #[.int .i64 k, .int .i64 x, .string s, .slice a l c], .int .i64 q, .bool ok]) ∧ Hid (SPost m X w' n zs at_ (.agg #[.int .i64 k, .int .i64 x, .string s, .slice a l c]) q ok)) := fun at_ X hX => by
    rw [hdm]
    exact H b off n cap zs at_ X hB (fun i hi => cell_later hX (hrow i hi))
  clear H
  by_cases hbad : ok = false ∨ ¬ (0 ≤ x ∧ x ≤ 60)
  · have HP : Hid (∀ Z v q, Below w.heap.size w Z → SPost (m + 1) w Z n zs at_ v q false) := fun Z v q hb => spost_no hb (by
      rw [getT_at HG.out]; unfold getB; rw [if_neg (by omega), if_neg hk.2.2, HGX.out, if_neg (fun hc => by
        rcases hbad with h | h
        · rw [h] at hc; exact Bool.noConfusion hc.2.1
        · exact h ⟨hc.2.2.1, hc.2.2.2⟩)]
      rfl)
    clear hg hgx hB hrow hdpe hdm HI hk
    by_cases hok : ok = false
    · subst hok
      go_enter Try.func79, Try.ntmps79
      go_wp2_with fail
      refine (HN.out _ _ _ _ _ (hA _) HG.out).mono ?_
      rintro e w' ⟨rfl, rfl⟩
      go_wp2_with fail
      refine (HN.out _ _ _ _ _ (two_below _ _ _) HGX.out).mono ?_
      rintro e w' ⟨rfl, rfl⟩
      go_wp2_with fail
      refine bodyPost_ret (v := .tuple #[.agg #[.int .i64 k, .int .i64 0, .string ByteArray.empty, .slice none 0 0], .int .i64 0, .bool false]) (by first | (simp [results, Try.results79, go_sem]; done) | (simp [results, Try.results79, go_sem]; rfl)) rfl ⟨k, 0, ByteArray.empty, none, 0, 0, 0, false, rfl, HP.out _ _ _ ?_⟩
      first | exact two_below _ _ _ | (refine set_below (set_below (set_below (set_below (two_below _ _ _) _ _ _ ?_) _ _ _ ?_) _ _ _ ?_) _ _ _ ?_ <;> (try simp)) | (trace_state; done)
    · have hok2 : ok = true := by simpa using hok
      have hx : ¬ (0 ≤ x ∧ x ≤ 60) := by rcases hbad with h | h; exact absurd h hok; exact h
      subst hok2
      have hI := specIn_any x 0 60
      rw [show decide (0 ≤ x ∧ x ≤ 60) = false from decide_eq_false hx] at hI
      clear hbad hok hx
      go_enter Try.func79, Try.ntmps79
      go_wp2_with fail
      refine (HN.out _ _ _ _ _ (hA _) HG.out).mono ?_
      rintro e w' ⟨rfl, rfl⟩
      go_wp2_with fail
      refine (HN.out _ _ _ _ _ (two_below _ _ _) HGX.out).mono ?_
      rintro e w' ⟨rfl, rfl⟩
      go_wp2_with fail
      refine (hI _).mono ?_
      clear hI
      rintro e w' ⟨rfl, rfl⟩
      go_wp2_with fail
      refine bodyPost_ret (v := .tuple #[.agg #[.int .i64 k, .int .i64 0, .string ByteArray.empty, .slice none 0 0], .int .i64 0, .bool false]) (by first | (simp [results, Try.results79, go_sem]; done) | (simp [results, Try.results79, go_sem]; rfl)) rfl ⟨k, 0, ByteArray.empty, none, 0, 0, 0, false, rfl, HP.out _ _ _ ?_⟩
      first | exact two_below _ _ _ | (refine set_below (set_below (set_below (set_below (two_below _ _ _) _ _ _ ?_) _ _ _ ?_) _ _ _ ?_) _ _ _ ?_ <;> (try simp)) | (trace_state; done)
  have hok2 : ok = true := by
    cases ok
    · exact absurd (.inl rfl) hbad
    · rfl
  have hx : 0 ≤ x ∧ x ≤ 60 := Classical.byContradiction fun h => hbad (.inr h)
  subst hok2
  have hl2 := getNum_lt zs q (by rw [hgx])
  rw [hgx] at hl2
  obtain ⟨hr, hrn, _, _⟩ : q < r ∧ r ≤ zs.length ∧ -1000000000000 ≤ x ∧ x ≤ 1000000000000 := hl2
  have hrn' : r ≤ n := by have := hB.len; omega
  have hnb := hB.le
  have hI := specIn_any x 0 60
  rw [show decide (0 ≤ x ∧ x ≤ 60) = true from by simp [hx]] at hI
  obtain ⟨V, hV⟩ : ∃ V, V = (w.alloc (.cells #[.int .i64 0, .int .i64 0, .string ⟨#[]⟩, .slice none 0 0] 26)).alloc (.cells #[.int .i64 k, .int .i64 0, .string ⟨#[]⟩, .slice none 0 0] 26) := ⟨_, rfl⟩
  have hVz : V.heap.size = w.heap.size + 2 := by rw [hV]; simp
  have HM0 : Hid (SMid m w V n zs k r 0 r) := by
    refine ⟨none, 0, 0, ?_, ?_, by rw [hV]; exact two_below _ _ _, [], [], rfl, made_nil m _ _, .inl rfl, by omega, hrn'⟩
    · rw [hV, heap_alloc_old _ _ (by simp)]; exact heap_alloc_new w _
    · rw [hV]
      have := heap_alloc_new (w.alloc (.cells #[.int .i64 0, .int .i64 0, .string ⟨#[]⟩, .slice none 0 0] 26)) (.cells #[.int .i64 k, .int .i64 0, .string ⟨#[]⟩, .slice none 0 0] 26)
      simpa using this
  have HVZ : Hid (V.heap.size = w.heap.size + 2) := hVz
  have HV : Hid (V = _) := hV
  have hx0 := hx.1
  have hx1 := hx.2
  have HX : Hid (0 ≤ x ∧ x ≤ 60) := hx
  clear hg hgx hB hrow hdpe hdm hk hbad hx hqn hrn hV hVz
  go_enter Try.func79, Try.ntmps79
  go_wp2_with fail
  refine (HN.out _ _ _ _ _ (hA _) HG.out).mono ?_
  rintro e w' ⟨rfl, rfl⟩
  go_wp2_with fail
  refine (HN.out _ _ _ _ _ (two_below _ _ _) HGX.out).mono ?_
  rintro e w' ⟨rfl, rfl⟩
  go_wp2_with fail
  refine (hI _).mono ?_
  clear hI
  rintro e w' ⟨rfl, rfl⟩
  go_wp2_with fail
  rw [← HV.out]
  go_loopw [20, 22] (fun p i wr => ∃ (j : Nat) (at2 : Int), (j : Int) ≤ x ∧ i = .int .i64 j ∧ p = .int .i64 at2 ∧ Hid (SMid m w wr n zs k r j at2)) (fun _ i _ => x.toNat - (intOf i).toNat)
  case atStart => exact ⟨0, r, by omega, rfl, rfl, HM0⟩
  case round =>
    obtain ⟨j, at2, hjx, rfl, rfl, HM⟩ := hrel
    obtain ⟨a, l, c, hR, hT, hb, ts, fp, hj, hMd, hC, hq2, hn2⟩ := HM.out
    obtain ⟨cs, hcs⟩ := made_row hMd
    rw [hj] at hcs
    have hTz : w.heap.size + 1 < wr.heap.size := lt_of_row' hT
    by_cases hlt : (j : Int) < x
    · have hC' := HI.out at2 wr hb
      go_wp2_with fail
      refine hC'.mono ?_
      clear hC'
      rintro e w' ⟨k2, x2, s2, a2, l2, c2, q2, ok2, rfl, HP⟩
      have hbw' := HP.out.1
      have hz' : wr.heap.size ≤ w'.heap.size := hbw'.size
      have hR' := (hbw'.block _ (by omega)).trans hR
      have hT' := (hbw'.block _ hTz).trans hT
      have hTz' : w.heap.size + 1 < w'.heap.size := by omega
      have hRz' : w.heap.size < w'.heap.size := by omega
      have hwb' : Below w.heap.size w w' := hb.trans (hbw'.mono hb.size)
      have b0 : w'.cell? ⟨w.heap.size, 0, none⟩ = some (.int .i64 0) := by rw [cell_of_row w' _ 0 _ _ _ hR']; rfl
      have y0 : w'.frozen? ⟨w.heap.size, 0, none⟩ = false := frozen_of_row w' _ 0 _ _ hR'
      have b1 : w'.cell? ⟨w.heap.size, 1, none⟩ = some (.int .i64 0) := by rw [cell_of_row w' _ 1 _ _ _ hR']; rfl
      have y1 : w'.frozen? ⟨w.heap.size, 1, none⟩ = false := frozen_of_row w' _ 1 _ _ hR'
      have b2 : w'.cell? ⟨w.heap.size, 2, none⟩ = some (.string ⟨#[]⟩) := by rw [cell_of_row w' _ 2 _ _ _ hR']; rfl
      have y2 : w'.frozen? ⟨w.heap.size, 2, none⟩ = false := frozen_of_row w' _ 2 _ _ hR'
      have b3 : w'.cell? ⟨w.heap.size, 3, none⟩ = some (.slice none 0 0) := by rw [cell_of_row w' _ 3 _ _ _ hR']; rfl
      have y3 : w'.frozen? ⟨w.heap.size, 3, none⟩ = false := frozen_of_row w' _ 3 _ _ hR'
      have t0 : w'.cell? ⟨w.heap.size + 1, 0, none⟩ = some (.int .i64 k) := by rw [cell_of_row w' _ 0 _ _ _ hT']; rfl
      have t1 : w'.cell? ⟨w.heap.size + 1, 1, none⟩ = some (.int .i64 0) := by rw [cell_of_row w' _ 1 _ _ _ hT']; rfl
      have t2 : w'.cell? ⟨w.heap.size + 1, 2, none⟩ = some (.string ⟨#[]⟩) := by rw [cell_of_row w' _ 2 _ _ _ hT']; rfl
      have t3 : w'.cell? ⟨w.heap.size + 1, 3, none⟩ = some (.slice a l c) := by rw [cell_of_row w' _ 3 _ _ _ hT']; rfl
      have u3 : w'.frozen? ⟨w.heap.size + 1, 3, none⟩ = false := frozen_of_row w' _ 3 _ _ hT'
      cases ok2
      · have HN2 : Hid (getT zs (m + 1) at_ = none) := none_list HK.out HG.out HGX.out (getL_none (came_fail hC (HP.out.2.2 rfl)) (by omega))
        have HPP : Hid (∀ Z v q, Below w.heap.size w Z → SPost (m + 1) w Z n zs at_ v q false) := fun Z v q hb => spost_no hb HN2.out
        have hA' : ∀ o, Below w.heap.size w (w'.alloc o) := fun o => hwb'.alloc hwb'.size _
        clear hR hT hMd hC hcs HM hR' hT' HP
        go_wp2_with fail
        refine bodyPost_ret (v := .tuple #[.agg #[.int .i64 k, .int .i64 0, .string ByteArray.empty, .slice a l c], .int .i64 0, .bool false]) (by first | (simp [results, Try.results79, go_sem, b0, b1, b2, b3, hRz']; done) | (simp [results, Try.results79, go_sem, b0, b1, b2, b3, hRz']; rfl)) rfl ⟨k, 0, ByteArray.empty, a, l, c, 0, false, rfl, HPP.out _ _ _ ?_⟩
        first | (refine set_below (set_below (set_below (set_below (hA' _) _ _ _ ?_) _ _ _ ?_) _ _ _ ?_) _ _ _ ?_ <;> (try simp)) | (refine Below.alloc (set_below (set_below (set_below (set_below hwb' _ _ _ ?_) _ _ _ ?_) _ _ _ ?_) _ _ _ ?_) ?_ _ <;> simp <;> omega) | (trace_state; done)
      · have hcs' : w'.ownsRow (w.heap.size + 2) 26 4 (.slice a l c) j cs := rowKept hcs fun g hg => by
          rcases hcs.2 with ⟨e, _⟩ | ⟨g', c', cur, e1, e2, e3, _⟩
          · rw [e] at hg; cases hg
          · rw [e1] at hg
            obtain rfl : g' = g := by simpa [Value.ownBlock] using hg
            exact hbw'.block g' (lt_of_row' e3)
        have hobn : ∀ g, (Value.slice a l c).ownBlock = some g → w.heap.size + 2 ≤ g := fun g hg => by
          rcases hcs.2 with ⟨e, _⟩ | ⟨g', c', cur, e1, e2, e3, _⟩
          · rw [e] at hg; cases hg
          · rw [e1] at hg
            obtain rfl : g' = g := by simpa [Value.ownBlock] using hg
            exact e2
        have HOB : Hid (∀ g, (Value.slice a l c).ownBlock = some g → w.heap.size + 2 ≤ g) := hobn
        have HT' : Hid _ := hT'
        have HST : Hid (∀ (V2 w2 : World) (av : Option Addr) (lv cv : Nat), Below w'.heap.size w' V2 → w2.ownsRow (w.heap.size + 2) 26 4 (.slice av lv cv) (j + 1) (cs ++ [.int .i64 k2, .int .i64 x2, .string s2, .slice a2 l2 c2]) → V2.grownBy w2 (Value.slice a l c).ownBlock →
            ((Value.slice av lv cv).ownBlock = (Value.slice a l c).ownBlock ∨ (Value.slice av lv cv).ownBlock = some V2.heap.size) → SMid m w (w2.setCell ⟨w.heap.size + 1, 3, none⟩ (.slice av lv cv)) n zs k r (j + 1) q2) :=
          fun V2 w2 av lv cv g1 g2 g3 g4 => smid_step (by omega) hR hT hb hj (by omega) hMd hC hq2 hcs HP.out g1 g2 g3 g4
        obtain ⟨i0, hi, hi0, hi1, hi2⟩ := info_parts Try.infoTerm
        have hjn : j ≤ 60 := by omega
        clear hR hT hMd hC hcs HM hR' hT' hobn HP b0 b1 b2 b3 y0 y1 y2 y3
        go_wp2_with (at_builtin; refine wpList_append_own_at _ rfl (.tmp 105) (.tmp 107) 24 rfl (w.heap.size + 2) 26 i0 (.agg #[.int .i64 0, .int .i64 0, .string ⟨#[]⟩, .slice none 0 0]) 4 56 Try.underlying24 hi hi0 hi1 hi2 rfl (by decide) _ _ _ rfl ((hcs'.alloc _).alloc _) ⟨w'.heap.size + 1, 0, none⟩ 1 1 [.int .i64 k2, .int .i64 x2, .string s2, .slice a2 l2 c2] rfl rfl ?c1 ?c2 ?c3 ?c4 ?c5 ?_)
        case c1 =>
          intro jj u hu
          have := four_new (w'.alloc (.cells #[.int .i64 k2, .int .i64 x2, .string s2, .slice a2 l2 c2] 26)) (.int .i64 k2) (.int .i64 x2) (.string s2) (.slice a2 l2 c2) 26 jj u hu
          simpa using this
        case c2 => intro u hu; simp at hu; rcases hu with rfl | rfl | rfl | rfl <;> rfl
        case c3 => unfold maxLen; omega
        case c4 => omega
        case c5 => simp; omega
        intro v' w2 hown2 hgrow2 _ hat
        obtain ⟨av, lv, cv, rfl⟩ := row_slice hown2
        have hT2 := (hgrow2.block (w.heap.size + 1) (by simp; omega) (fun e => by have := HOB.out _ e.symm; omega)).trans (((two_below w' _ _).block _ hTz').trans HT'.out)
        have v3 : w2.cell? ⟨w.heap.size + 1, 3, none⟩ = some (.slice a l c) := by rw [cell_of_row w2 _ 3 _ _ _ hT2]; rfl
        have v3' : w2.frozen? ⟨w.heap.size + 1, 3, none⟩ = false := frozen_of_row w2 _ 3 _ _ hT2
        have HM2 : Hid (SMid m w (w2.setCell ⟨w.heap.size + 1, 3, none⟩ (.slice av lv cv)) n zs k r (j + 1) q2) := HST.out _ w2 av lv cv (two_below w' _ _) hown2 hgrow2 (by simpa using hat)
        clear hown2 hgrow2 hat HST hcs' hT2 HT' t0 t1 t2 t3 u3
        go_wp2_with fail
        go_roundw
        case rel => exact ⟨j + 1, q2, by omega, by go_num, rfl, HM2⟩
        case measure => simp [intOf]; omega
    · have hjx2 : (j : Int) = x := by omega
      have b0 : wr.cell? ⟨w.heap.size, 0, none⟩ = some (.int .i64 0) := by rw [cell_of_row wr _ 0 _ _ _ hR]; rfl
      have y0 : wr.frozen? ⟨w.heap.size, 0, none⟩ = false := frozen_of_row wr _ 0 _ _ hR
      have b1 : wr.cell? ⟨w.heap.size, 1, none⟩ = some (.int .i64 0) := by rw [cell_of_row wr _ 1 _ _ _ hR]; rfl
      have y1 : wr.frozen? ⟨w.heap.size, 1, none⟩ = false := frozen_of_row wr _ 1 _ _ hR
      have b2 : wr.cell? ⟨w.heap.size, 2, none⟩ = some (.string ⟨#[]⟩) := by rw [cell_of_row wr _ 2 _ _ _ hR]; rfl
      have y2 : wr.frozen? ⟨w.heap.size, 2, none⟩ = false := frozen_of_row wr _ 2 _ _ hR
      have b3 : wr.cell? ⟨w.heap.size, 3, none⟩ = some (.slice none 0 0) := by rw [cell_of_row wr _ 3 _ _ _ hR]; rfl
      have y3 : wr.frozen? ⟨w.heap.size, 3, none⟩ = false := frozen_of_row wr _ 3 _ _ hR
      have t0 : wr.cell? ⟨w.heap.size + 1, 0, none⟩ = some (.int .i64 k) := by rw [cell_of_row wr _ 0 _ _ _ hT]; rfl
      have t1 : wr.cell? ⟨w.heap.size + 1, 1, none⟩ = some (.int .i64 0) := by rw [cell_of_row wr _ 1 _ _ _ hT]; rfl
      have t2 : wr.cell? ⟨w.heap.size + 1, 2, none⟩ = some (.string ⟨#[]⟩) := by rw [cell_of_row wr _ 2 _ _ _ hT]; rfl
      have t3 : wr.cell? ⟨w.heap.size + 1, 3, none⟩ = some (.slice a l c) := by rw [cell_of_row wr _ 3 _ _ _ hT]; rfl
      have HF : Hid (∀ Z, Turned w.heap.size wr Z → SPost (m + 1) w Z n zs at_ (.agg #[.int .i64 k, .int .i64 0, .string ByteArray.empty, .slice a l c]) at2 true) := fun Z hZ =>
        spost_list HK.out ⟨by omega, by omega⟩ HG.out HGX.out HX.out (by omega) (by omega) hn2 hb hMd (by rw [← hjx2, Int.toNat_natCast]; exact hC) hZ
      have hlt' : decide ((j : Int) < x) = false := by simp; omega
      clear hR hT hMd hC hcs HM hlt
      go_wp2_with fail
      refine bodyPost_ret (v := .tuple #[.agg #[.int .i64 k, .int .i64 0, .string ByteArray.empty, .slice a l c], .int .i64 at2, .bool true]) (by first | (simp [results, Try.results79, go_sem, b0, b1, b2, b3]; done) | (simp [results, Try.results79, go_sem, b0, b1, b2, b3]; rfl)) rfl ⟨k, 0, ByteArray.empty, a, l, c, at2, true, rfl, HF.out _ ?_⟩
      exact (((Turned.of_set _ _ _ _).trans (Turned.of_set _ _ _ _)).trans (Turned.of_set _ _ _ _)).trans (Turned.of_set _ _ _ _)

/-- The model's reading of a term, at every depth. -/
theorem specGet_any : ∀ m, m ≤ 8 → SGC m := by
  intro m
  induction m with
  | zero => intro _ b off n cap zs at_ w hB hrow; exact specGet_no 0 (by omega) b off n cap zs at_ w hB hrow (.inl rfl)
  | succ m ih =>
    intro hm b off n cap zs at_ w hB hrow
    by_cases hg : (getNum zs at_).2.2 = true
    case neg => exact specGet_no (m + 1) hm b off n cap zs at_ w hB hrow (.inr hg)
    obtain ⟨k, q, hgk⟩ : ∃ k q, getNum zs at_ = (k, q, true) := ⟨(getNum zs at_).1, (getNum zs at_).2.1, by rw [← hg]⟩
    by_cases h1 : k = 1
    · subst h1; exact specGet_1 m (by omega) b off n cap zs at_ q w hB hrow hgk
    by_cases h3 : k = 3
    · subst h3; exact specGet_3 m (by omega) b off n cap zs at_ q w hB hrow hgk
    by_cases h2 : k = 2
    · subst h2; exact specGet_2 m (by omega) b off n cap zs at_ q w hB hrow hgk
    exact specGet_list m (by omega) (ih (by omega)) b off n cap zs at_ k q w hB hrow hgk ⟨h1, h3, h2⟩

end Go.Proofs.Ythjmbbpakidkdaa
