/- What a draw of tokens comes to: few tokens that are right, in new memory; nothing old is written. -/
import Derived.Test.YtickaplokjdijaaDoorDrTk
namespace Go.Proofs.YtickaplokjdijaaDoor
open Go.RowKit
set_option linter.unusedVariables false

/-- Tokens that are right. -/
def DToks (ts : List Tok) : Prop := ∀ t ∈ ts, DTok t.1 t.2.1 t.2.2

theorem DToks.snoc {ts : List Tok} {k n : Int} {s : ByteArray} (h : DToks ts) (h2 : DTok k n s) : DToks (ts ++ [tk3 k n s]) := fun t ht => by
  rcases List.mem_append.1 ht with h1 | h1
  · exact h t h1
  · obtain rfl := List.mem_singleton.1 h1
    exact h2

set_option maxHeartbeats 1000000 in
theorem l3Tokens_any (p len cap : Nat) (a : Option Addr) (zs : List Int) (most : Nat) (w : World) (hc : Cur w p a len cap) (hr : IsRow .u8 w a len cap zs) (hne : ∀ x, a = some x → 0 < cap → x.block ≠ p) (hm : len ≤ 4611686018427387904) (h0 : 0 < most) (h1 : most ≤ 100) :
    Calls Tryd.prog 30 #[.pointer (some ⟨p, 0, none⟩), .int .i64 most] w fun e w' => ∃ (g : Option Addr) (c : Nat) (ts : List Tok), e = .returned (.slice g ts.length c) ∧ ts.length < most ∧ Hid (DToks ts) ∧ w'.ownsRow w.heap.size 31 3 (.slice g ts.length c) ts.length (tokCells ts) ∧ Cur w' p a len cap ∧ w.grownBy w' (some p) := by
  obtain ⟨i0, hi, hz0, hz1, hz2⟩ := info_parts Tryd.infoToken
  have HT := fun (W : World) (hc : Cur W p a len cap) (hr : IsRow .u8 W a len cap zs) => l3Token_any p len cap a zs W hc hr hne hm
  have HNE : Hid (∀ x, a = some x → 0 < cap → x.block ≠ p) := hne
  have hp := hc.lt
  have hlit : (w.alloc (.cells #[] 31)).ownsRow w.heap.size 31 3 (.slice (some ⟨w.heap.size, 0, none⟩) 0 0) 0 [] := World.ownsRow_lit w #[] 0 (Nat.le_refl _) (Nat.zero_le _) rfl
  have hc0 : Cur (w.alloc (.cells #[] 31)) p a len cap := hc.same (Below.heap_alloc w _ p hp)
  have hg0 : w.grownBy (w.alloc (.cells #[] 31)) (some p) := World.grownBy_alloc w _ (some p)
  have HB := l1Below_any p len cap a zs most (w.alloc (.cells #[] 31)) hc0 (hr.grown hg0 hne) hne hm (by omega) (by omega)
  clear hne hc hc0
  go_enter Tryd.func30, Tryd.ntmps30
  go_wp2_with fail
  refine HB.mono ?_
  clear HB
  rintro e w1 ⟨y, hy0, hy1, rfl, hc1, hg1⟩
  obtain ⟨m, rfl⟩ := Int.eq_ofNat_of_zero_le hy0
  have hown1 : w1.ownsRow w.heap.size 31 3 (.slice (some ⟨w.heap.size, 0, none⟩) 0 0) 0 [] := hlit.kept hg1 (.inr (fun e => by have := (hlit.lt p e).1; omega))
  have hg2 := grownBy_trans hg0 hg1
  clear hlit hg0 hg1
  go_wp2_with fail
  go_loopw [5, 6] (fun v i wr => ∃ (k : Nat) (ts : List Tok), ts.length + k = m ∧ i = .int .i64 k ∧ wr.ownsRow w.heap.size 31 3 v ts.length (tokCells ts) ∧ Hid (DToks ts) ∧ Cur wr p a len cap ∧ w.grownBy wr (some p)) (fun _ i _ => (intOf i).toNat)
  case atStart => exact ⟨m, [], by simp, rfl, hown1, fun t ht => (by cases ht), hc1, hg2⟩
  case round =>
    obtain ⟨k, ts, hk, rfl, hown, HD, hcw, hgw⟩ := hrel
    obtain ⟨ga, ca, rfl⟩ := tok_shape hown
    clear hown1 hc1 hg2
    by_cases hlt : 0 < k
    · have hrw := hr.grown hgw HNE.out
      have hlt' : (0 : Int) < (k : Int) := by omega
      go_wp2_with fail
      refine (HT wr hcw hrw).mono ?_
      rintro e w1 ⟨tk, tn, S, rfl, HX, hc1, hg1⟩
      have hown1 := hown.kept hg1 (.inr (fun e => by have := (hown.lt p e).1; omega))
      have hg2 := grownBy_trans hgw hg1
      have hs1 := hg2.size
      have HD2 : Hid (DToks (ts ++ [tk3 tk tn S])) := HD.out.snoc HX.out
      clear hown hcw hrw hg1 hgw HX HD
      have hown4 := ownsRow_kept hown1 ((Below.refl _ w1).alloc (Nat.le_refl _) (.cells #[.int .i64 tk, .int .i64 tn, .string S] 31))
      have HC : Hid (tokCells ts ++ [.int .i64 tk, .int .i64 tn, .string S] = tokCells (ts ++ [tk3 tk tn S])) := (tokCells_snoc ts tk tn S).symm
      have HOB : Hid (∀ g, (Value.slice ga ts.length ca).ownBlock = some g → w.heap.size ≤ g) := row_above hown1
      obtain ⟨cs, hcs⟩ : ∃ cs, tokCells ts = cs := ⟨_, rfl⟩
      obtain ⟨n, hn⟩ : ∃ n, ts.length = n := ⟨_, rfl⟩
      have HLN : Hid (ts.length = n) := hn
      rw [hcs] at hown4 HC
      rw [hn] at hown4 HOB hk ⊢
      clear hcs hown1 hn
      go_wp2_with (at_builtin; refine wpList_append_own _ rfl _ _ 24 rfl w.heap.size 31 i0 (.agg #[.int .i64 0, .int .i64 0, .string ⟨#[]⟩]) 3 32 Tryd.underlying24 hi hz0 hz1 hz2 rfl (by decide) _ _ _ rfl hown4 ⟨w1.heap.size, 0, none⟩ 1 1 [.int .i64 tk, .int .i64 tn, .string S] rfl rfl (three_new w1 _ _ _ _) (by intro u hu; simp at hu; rcases hu with rfl | rfl | rfl <;> rfl) (by unfold maxLen; omega) (by omega) (by simp; omega) ?_)
      intro v' w5 hown5 hgr5 _
      have hkeep : ∀ j, j < w.heap.size → w5.heap[j]? = w1.heap[j]? := fun j hj => by
        rw [hgr5.block j (by simp; omega) (fun e => by have := HOB.out j e.symm; omega)]
        exact Below.heap_alloc w1 _ j (by omega)
      have hc5 : Cur w5 p a len cap := hc1.same (hkeep p hp)
      have hg5 : w.grownBy w5 (some p) := ⟨hgr5.os.trans hg2.os, hgr5.tape.trans hg2.tape, hgr5.output.trans hg2.output, Nat.le_trans hs1 (Nat.le_trans (by simp) hgr5.size), fun j hj hne => (hkeep j hj).trans (hg2.block j hj hne)⟩
      have hlen : (ts ++ [tk3 tk tn S]).length = n + 1 := by rw [List.length_append, HLN.out]; rfl
      rw [HC.out, ← hlen] at hown5
      have HOW : Hid (w5.ownsRow w.heap.size 31 3 v' (ts ++ [tk3 tk tn S]).length (tokCells (ts ++ [tk3 tk tn S]))) := hown5
      have hk5 : (ts ++ [tk3 tk tn S]).length + (k - 1) = m := by omega
      clear hown5 hgr5 hown4 hc1 hg2 hkeep HC HOB HT
      go_wp2
      go_roundw
      case rel => exact ⟨k - 1, ts ++ [tk3 tk tn S], hk5, by go_num, HOW.out, HD2, hc5, hg5⟩
      case measure => simp [intOf]; omega
    · have hb : decide ((0 : Int) < (k : Int)) = false := by simp; omega
      go_wp2
      go_ret
      exact ⟨ga, ca, ts, rfl, by omega, HD, hown, hcw, hgw⟩

set_option maxHeartbeats 1000000 in
theorem drawJoin_any (a : Option Addr) (len cap : Nat) (zs : List Int) (w : World) (hr : IsRow .u8 w a len cap zs) (hm : len ≤ 1048576) :
    Calls Tryd.prog 9 #[.slice a len cap] w fun e w' => ∃ (g : Option Addr) (c : Nat) (ts : List Tok), e = .returned (.slice g ts.length c) ∧ ts.length < 10 ∧ Hid (DToks ts) ∧ (∃ B, w.heap.size ≤ B ∧ w'.ownsRow B 31 3 (.slice g ts.length c) ts.length (tokCells ts)) ∧ Below w.heap.size w w' := by
  have hne : ∀ x, a = some x → 0 < cap → x.block ≠ w.heap.size := isRow_old hr
  have hN := l1New_any a len cap zs w hr (by omega)
  have HS := fun (W : World) (hc : Cur W w.heap.size a len cap) (hr : IsRow .u8 W a len cap zs) => l3Tokens_any w.heap.size len cap a zs 10 W hc hr hne (by omega) (by omega) (by omega)
  clear hne
  go_enter Tryd.func9, Tryd.ntmps9
  go_wp2_with fail
  refine hN.mono ?_
  clear hN
  rintro e w1 ⟨rfl, hc1, hb1⟩
  have hr1 := hr.later hb1
  clear hr
  go_wp2_with fail
  refine (HS w1 hc1 hr1).mono ?_
  rintro e w2 ⟨g, c, ts, rfl, hl, HD, hown, hc2, hg2⟩
  have hb2 : Below w.heap.size w w2 := hb1.trans (grown_below hg2 (Nat.le_refl _) hb1.size)
  have HOW : Hid (w2.ownsRow w1.heap.size 31 3 (.slice g ts.length c) ts.length (tokCells ts)) := hown
  have hsz := hb1.size
  clear hc1 hr1 hg2 HS hown hc2 hb1
  go_wp2_with fail
  go_ret
  exact ⟨g, c, ts, rfl, hl, HD, ⟨_, hsz, HOW.out⟩, hb2⟩

end Go.Proofs.YtickaplokjdijaaDoor
