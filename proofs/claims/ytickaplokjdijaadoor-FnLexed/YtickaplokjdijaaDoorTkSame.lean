/- Tokens read off a row that was built, and the law's comparison of two rows of tokens. -/
import Derived.Test.YtickaplokjdijaaDoorLawK
import Derived.Test.YtickaplokjdijaaDoorJT2
import Derived.Test.YtickaplokjdijaaDoorBack
import Derived.Test.YtickaplokjdijaaDoorDrTk2
import Derived.Laws.StructEq
namespace Go.Proofs.YtickaplokjdijaaDoor
open Go.RowKit
set_option linter.unusedVariables false

theorem rdO_own {w : World} {B c : Nat} {a : Option Addr} {ts : List Tok} (h : w.ownsRow B 31 3 (.slice a ts.length c) ts.length (tokCells ts)) : RdO w a ts := fun i t ht => by
  obtain ⟨b, e, h3⟩ := rdTk_own h i t ht
  exact ⟨b, 0, e, by rw [Nat.zero_add]; exact h3⟩

theorem sP_small (ts : List Tk) (h : ∀ t ∈ ts, t.2.2.size ≤ 20) : sP ts ts.length ≤ 20 * ts.length := by
  unfold sP
  rw [List.take_length]
  induction ts with
  | nil => exact Nat.le_refl _
  | cons t r ih =>
    have h1 := h t (List.mem_cons_self ..)
    have h2 := ih (fun x hx => h x (List.mem_cons_of_mem _ hx))
    rw [List.map_cons, List.sum_cons, List.length_cons]
    omega

theorem text_pos {k n : Int} {s r : ByteArray} (h : TokP k n s) (h2 : TxtP k n s r) : 0 < r.size := by
  rcases h2 with ⟨_, rfl⟩ | ⟨h3, _⟩
  · rcases h with ⟨rfl, ⟨h1, h2⟩, h3⟩ | ⟨rfl, h1, rfl⟩ | ⟨rfl, h1, rfl⟩ | ⟨rfl, h1, rfl⟩
    · exact (int_back n h1 h2).1.1
    · exact h1.2.1
    · exact h1.2.1
    · show 0 < s.size
      rw [Lib.size_eq]
      rcases h1 with h | h | ⟨c, _, h⟩ <;> rw [h] <;> simp
  · exact absurd h h3

set_option maxHeartbeats 1000000 in
theorem sameTokens_any (a1 a2 : Option Addr) (c1 c2 : Nat) (ts : List Tk) (w : World) (h1 : RdO w a1 ts) (h2 : RdO w a2 ts) (hm : ts.length ≤ 1048576) :
    Calls Tryd.prog 14 #[.slice a1 ts.length c1, .slice a2 ts.length c2] w fun e w' => e = .returned (.bool true) ∧ Below w.heap.size w w' := by
  have HE1 : Hid (RdO w a1 ts) := h1
  have HE2 : Hid (RdO w a2 ts) := h2
  obtain ⟨len, hlen⟩ : ∃ len, ts.length = len := ⟨_, rfl⟩
  have HLN : Hid (ts.length = len) := hlen
  rw [hlen] at hm ⊢
  clear hlen h1 h2
  go_enter Tryd.func14, Tryd.ntmps14
  go_wp2_with fail
  go_loopw [5] (fun i wr => ∃ k : Nat, k ≤ len ∧ i = .int .i64 k ∧ Below w.heap.size w wr) (fun i _ => len - (intOf i).toNat)
  case atStart => exact ⟨0, Nat.zero_le _, rfl, Below.refl _ _⟩
  case round =>
    obtain ⟨k, hk, rfl, hb⟩ := hrel
    by_cases hkl : k < len
    · obtain ⟨t, ht⟩ : ∃ t, ts[k]? = some t := ⟨_, List.getElem?_eq_getElem (by rw [HLN.out]; exact hkl)⟩
      obtain ⟨b1, o1, rfl, f0, f1, f2⟩ := HE1.out k t ht
      obtain ⟨b2, o2, rfl, g0, g1, g2⟩ := HE2.out k t ht
      have f0 := cell_later hb f0
      have f1 := cell_later hb f1
      have f2 := cell_later hb f2
      have g0 := cell_later hb g0
      have g1 := cell_later hb g1
      have g2 := cell_later hb g2
      have hkl' : (k : Int) < (len : Int) := by omega
      clear ht
      go_wp2
      go_region_with (fail)
      all_goals
        have hb2 := hb.drew
        clear hb
        go_wp2
        go_roundw
        case rel => exact ⟨k + 1, by omega, by go_num, hb2⟩
        case measure => simp [intOf]; omega
    · go_wp2
      go_ret
      exact ⟨rfl, hb⟩

/-- Tokens that are right are joined to a text that is read as they. -/
theorem joinLex_any (g : Option Addr) (c : Nat) (ts : List Tk) (w : World) (n : Nat) (hok : ∀ t ∈ ts, DTok t.1 t.2.1 t.2.2) (hn : ts.length = n) (hl : n ≤ 2000) (hr : RdO w g ts) (ht : TabOk w) :
    Calls Tryd.prog 11 #[.slice g n c] w fun e w' => ∃ x, e = .returned (.string x) ∧ Hid (LexR x 0 [] ts (-1)) ∧ x.size ≤ 1048576 ∧ Below w.heap.size w w' := by
  subst hn
  have h1 := sP_small ts (fun t ht => (hok t ht).2)
  refine (join_any g c ts w hr ⟨by omega, fun t ht => Nat.le_trans (hok t ht).2 (by unfold maxLen; omega)⟩ (by omega) ht).mono ?_
  rintro e w' ⟨x, rfl, HJ, hb⟩
  have h2 := HJ.out.size
  exact ⟨x, rfl, lex_back ts (fun t ht => (hok t ht).1) hl x HJ.out, by omega, hb⟩

theorem sameToks_any (a1 a2 : Option Addr) (c1 c2 : Nat) (ts : List Tk) (w : World) (n : Nat) (hn : ts.length = n) (h1 : RdO w a1 ts) (h2 : RdO w a2 ts) (hm : n ≤ 1048576) :
    Calls Tryd.prog 14 #[.slice a1 n c1, .slice a2 n c2] w fun e w' => e = .returned (.bool true) ∧ Below w.heap.size w w' := by
  subst hn
  exact sameTokens_any a1 a2 c1 c2 ts w h1 h2 hm

end Go.Proofs.YtickaplokjdijaaDoor
