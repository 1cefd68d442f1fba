/- What the law's own looks and marks come to at rows that may be nil, and at terms. -/
import Derived.Test.YtfachfimdenapaaDoorIPutM
import Derived.Test.YtfachfimdenapaaDoorMarkTM
namespace Go.Proofs.YtfachfimdenapaaDoor
open Go.RowKit
set_option linter.unusedVariables false

theorem owns_cases {w : World} {B n : Nat} {v : Value} {xs : List Value} (h : w.ownsRow B 5 1 v n xs) : (v = .slice none 0 0 ∧ n = 0) ∨ ∃ g c, v = .slice (some ⟨g, 0, none⟩) n c ∧ B ≤ g := by
  rcases h.2 with ⟨h1, h2⟩ | ⟨g, c, cur, e1, e2, _⟩
  · exact .inl ⟨h1, h2⟩
  · exact .inr ⟨g, c, e1, e2⟩

theorem eq0 (a1 a2 : Option Addr) (c1 c2 : Nat) (w : World) : Calls Tryd.prog 8 #[.slice a1 0 c1, .slice a2 0 c2] w fun e w' => e = .returned (.bool true) ∧ Below w.heap.size w w' := by
  go_enter Tryd.func8, Tryd.ntmps8
  go_wp2_with fail
  refine wp_loop_rounds 1 ?_
  rw [rounds_succ]
  go_wp2_with fail
  go_ret
  exact ⟨rfl, Below.refl _ _⟩

theorem eqV (B1 B2 : Nat) (v1 v2 : Value) (xs : List Int) (w : World) (h1 : w.ownsRow B1 5 1 v1 xs.length (xs.map (Value.int .u8))) (h2 : w.ownsRow B2 5 1 v2 xs.length (xs.map (Value.int .u8))) (hm : xs.length ≤ 4611686018427387904) :
    Calls Tryd.prog 8 #[v1, v2] w fun e w' => e = .returned (.bool true) ∧ Below w.heap.size w w' := by
  rcases owns_cases h1 with ⟨rfl, e1⟩ | ⟨g1, c1, rfl, _⟩
  · rcases owns_cases h2 with ⟨rfl, e2⟩ | ⟨g2, c2, rfl, _⟩
    · exact eq0 _ _ _ _ w
    · rw [e1]; exact eq0 _ _ _ _ w
  · rcases owns_cases h2 with ⟨rfl, e2⟩ | ⟨g2, c2, rfl, _⟩
    · rw [e2]; exact eq0 _ _ _ _ w
    · exact eqByteS_below B1 B2 g1 c1 g2 c2 _ xs w h1 h2 hm

theorem mark0 (a1 : Option Addr) (c1 : Nat) (w : World) : Calls Tryd.prog 11 #[.slice a1 0 c1, .int .i64 1] w fun e w' => e = .returned (.int .i64 1) ∧ w = w' := by
  go_enter Tryd.func11, Tryd.ntmps11
  go_wp2_with fail
  refine wp_loop_rounds 1 ?_
  rw [rounds_succ]
  go_wp2_with fail
  go_ret
  exact ⟨rfl, rfl⟩

theorem held0 (a1 : Option Addr) (c1 : Nat) (w : World) : Calls Tryd.prog 12 #[.slice a1 0 c1, .int .i64 1] w fun e w' => e = .returned (.int .i64 1) ∧ w = w' := by
  go_enter Tryd.func12, Tryd.ntmps12
  go_wp2_with fail
  refine wp_loop_rounds 1 ?_
  rw [rounds_succ]
  go_wp2_with fail
  go_ret
  exact ⟨rfl, rfl⟩

theorem markV (B n : Nat) (v : Value) (xs : List Value) (w : World) (h : w.ownsRow B 5 1 v n xs) (hB : B ≤ w.heap.size) (hm : n ≤ 1099511627776) :
    Calls Tryd.prog 11 #[v, .int .i64 1] w fun e w' => e = .returned (.int .i64 ((n : Int) + 1)) ∧ w'.ownsRow B 5 1 v n (marked xs n) ∧ Below B w w' := by
  rcases owns_cases h with ⟨rfl, rfl⟩ | ⟨g, c, rfl, hg⟩
  · refine (mark0 _ _ w).mono ?_
    rintro e w' ⟨rfl, rfl⟩
    exact ⟨rfl, ⟨by have := h.1; simp [marked]; exact List.length_eq_zero_iff.1 (by omega), .inl ⟨rfl, rfl⟩⟩, Below.refl _ _⟩
  · refine (markByteS_any B g n c xs w h hm).mono ?_
    rintro e w' ⟨rfl, ho, hgr⟩
    exact ⟨rfl, ho, (Below.refl B w).grown hgr hB (fun k hk => by cases hk; exact hg)⟩

theorem heldV (B n : Nat) (v : Value) (xs : List Value) (w : World) (h : w.ownsRow B 5 1 v n (marked xs n)) (hm : n ≤ 1099511627776) :
    Calls Tryd.prog 12 #[v, .int .i64 1] w fun e w' => e = .returned (.int .i64 ((n : Int) + 1)) ∧ w = w' := by
  rcases owns_cases h with ⟨rfl, rfl⟩ | ⟨g, c, rfl, hg⟩
  · exact held0 _ _ w
  · refine (heldByteS_any B g n c xs w h hm).mono ?_
    rintro e w' ⟨rfl, rfl⟩
    exact ⟨rfl, rfl⟩

theorem ownsRow_wrote {w w' : World} {B n : Nat} {v : Value} {xs : List Value} {fp : List Nat} (h : w.ownsRow B 5 1 v n xs) (hb : Wrote fp w w') (hf : ∀ g ∈ fp, g < B) : w'.ownsRow B 5 1 v n xs := by
  obtain ⟨h1, h2⟩ := h
  refine ⟨h1, ?_⟩
  rcases h2 with h2 | ⟨g, c, cur, e1, e2, e3, e4⟩
  · exact .inl h2
  · exact .inr ⟨g, c, cur, e1, e2, (hb.block g (Nat.lt_of_not_le fun hn => by rw [Array.getElem?_eq_none hn] at e3; cases e3) (fun hg => by have := hf g hg; omega)).trans e3, e4⟩

theorem ownsRow_under {w w' : World} {B C n : Nat} {v : Value} {xs : List Value} (h : w.ownsRow B 5 1 v n xs) (hc : ∀ g, w.ownsRow B 5 1 v n xs → (∃ c, v = .slice (some ⟨g, 0, none⟩) n c) → g < C) (hb : Below C w w') : w'.ownsRow B 5 1 v n xs := by
  have h0 := h
  obtain ⟨h1, h2⟩ := h
  refine ⟨h1, ?_⟩
  rcases h2 with h2 | ⟨g, c, cur, e1, e2, e3, e4⟩
  · exact .inl h2
  · exact .inr ⟨g, c, cur, e1, e2, (hb.block g (hc g h0 ⟨c, e1⟩)).trans e3, e4⟩

theorem lt_of_row {w : World} {g : Nat} {o : Obj} (h : w.heap[g]? = some o) : g < w.heap.size := Nat.lt_of_not_le fun hn => by rw [Array.getElem?_eq_none hn] at h; cases h

theorem ownsRow_at {w w' : World} {B n g c : Nat} {v : Value} {xs : List Value} (h : w.ownsRow B 5 1 v n xs) (hv : v = .slice (some ⟨g, 0, none⟩) n c) (hb : w'.heap[g]? = w.heap[g]?) : w'.ownsRow B 5 1 v n xs := by
  obtain ⟨h1, h2⟩ := h
  refine ⟨h1, ?_⟩
  rcases h2 with h2 | ⟨g', c', cur, e1, e2, e3, e4⟩
  · exact .inl h2
  · have e5 := e1
    rw [hv] at e5
    simp only [Value.slice.injEq, Option.some.injEq, Addr.mk.injEq, and_true, true_and] at e5
    obtain ⟨rfl, rfl⟩ := e5
    exact .inr ⟨g, c, cur, e1, e2, hb.trans e3, e4⟩

end Go.Proofs.YtfachfimdenapaaDoor
