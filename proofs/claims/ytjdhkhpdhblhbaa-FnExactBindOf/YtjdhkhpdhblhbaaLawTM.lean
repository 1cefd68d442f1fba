/- What the law's own looks and marks come to at rows that may be nil, and at terms. -/
import Derived.Test.YtjdhkhpdhblhbaaIPutM
import Derived.Test.YtjdhkhpdhblhbaaMarkTM
namespace Go.Proofs.Ytjdhkhpdhblhbaa
open Go.RowKit
set_option linter.unusedVariables false

theorem owns_cases {w : World} {B n : Nat} {v : Value} {xs : List Value} (h : w.ownsRow B 5 1 v n xs) : (v = .slice none 0 0 ∧ n = 0) ∨ ∃ g c, v = .slice (some ⟨g, 0, none⟩) n c ∧ B ≤ g := by
  rcases h.2 with ⟨h1, h2⟩ | ⟨g, c, cur, e1, e2, _⟩
  · exact .inl ⟨h1, h2⟩
  · exact .inr ⟨g, c, e1, e2⟩

theorem ownsRow_wrote {w w' : World} {B n : Nat} {v : Value} {xs : List Value} {fp : List Nat} (h : w.ownsRow B 5 1 v n xs) (hb : Wrote fp w w') (hf : ∀ g ∈ fp, g < B) : w'.ownsRow B 5 1 v n xs := by
  obtain ⟨h1, h2⟩ := h
  refine ⟨h1, ?_⟩
  rcases h2 with h2 | ⟨g, c, cur, e1, e2, e3, e4⟩
  · exact .inl h2
  · exact .inr ⟨g, c, cur, e1, e2, (hb.block g (Nat.lt_of_not_le fun hn => by rw [Array.getElem?_eq_none hn] at e3; cases e3) (fun hg => by have := hf g hg; omega)).trans e3, e4⟩

theorem ownsRow_under {w w' : World} {B C n : Nat} {v : Value} {xs : List Value} (h : w.ownsRow B 5 1 v n xs) (hc : ∀ g, w.ownsRow B 5 1 v n xs → (∃ c, v = .slice (some ⟨g, 0, none⟩) n c) → g < C) (hb : Below C w w') : w'.ownsRow B 5 1 v n xs := by
  have h0 := h
  obtain ⟨h1, h2⟩ := h
  refine ⟨h1, ?_⟩
  rcases h2 with h2 | ⟨g, c, cur, e1, e2, e3, e4⟩
  · exact .inl h2
  · exact .inr ⟨g, c, cur, e1, e2, (hb.block g (hc g h0 ⟨c, e1⟩)).trans e3, e4⟩

set_option maxHeartbeats 400000 in
theorem markTerm_of (d : Nat) (k n : Int) (s : ByteArray) (a : Option Addr) (l c : Nat) (ts : List (Tm d)) (fp : List Nat) (q : Int) (w : World) (ho : OwnL d w (.slice a l c) ts fp) (hn : fp.Nodup) (h0 : 0 ≤ q) (h1 : q + 3 * (cntL d ts : Nat) ≤ 1099511627776) :
    Calls Try.prog 26 #[.agg #[.int .i64 k, .int .i64 n, .string s, .slice a l c], .int .i64 q] w fun e w' => e = .returned (.int .i64 (q + 3 * (cntL d ts : Nat))) ∧ OwnL d w' (.slice a l c) (markL d q ts).1 fp ∧ Wrote fp w w' := by
  have hA : Below w.heap.size w (w.alloc (.cells #[.int .i64 k, .int .i64 n, .string s, .slice a l c] 29)) := (Below.refl _ _).alloc (Nat.le_refl _) _
  have hC := markTermS_any d (.slice a l c) ts fp q _ (ho.frame fun g hg => hA.block g (ho.lt g hg)) hn h0 h1
  have HW : Hid (Wrote fp w (w.alloc (.cells #[.int .i64 k, .int .i64 n, .string s, .slice a l c] 29))) := Wrote.of_below hA
  obtain ⟨r, hr⟩ : ∃ r, q + 3 * ((cntL d ts : Nat) : Int) = r := ⟨_, rfl⟩
  rw [hr] at hC ⊢
  clear ho hA hr
  go_enter Try.func26, Try.ntmps26
  go_wp2_with fail
  refine hC.mono ?_
  clear hC
  rintro e w' ⟨rfl, h2, h3⟩
  have h4 := HW.out.trans h3
  clear h3 HW
  go_wp2_with fail
  go_ret
  exact ⟨rfl, h2, h4⟩

set_option maxHeartbeats 400000 in
theorem heldTerm_of (d : Nat) (k n : Int) (s : ByteArray) (a : Option Addr) (l c : Nat) (ts : List (Tm d)) (q : Int) (w : World) (ho : RdL d w (.slice a l c) (markL d q ts).1) (h0 : 0 ≤ q) (h1 : q + 3 * (cntL d ts : Nat) ≤ 1099511627776) :
    Calls Try.prog 27 #[.agg #[.int .i64 k, .int .i64 n, .string s, .slice a l c], .int .i64 q] w fun e w' => e = .returned (.int .i64 (q + 3 * (cntL d ts : Nat))) ∧ Below w.heap.size w w' := by
  have hA : Below w.heap.size w (w.alloc (.cells #[.int .i64 k, .int .i64 n, .string s, .slice a l c] 29)) := (Below.refl _ _).alloc (Nat.le_refl _) _
  have hC := heldTermS_any d (.slice a l c) ts q _ (ho.later hA) h0 h1
  obtain ⟨r, hr⟩ : ∃ r, q + 3 * ((cntL d ts : Nat) : Int) = r := ⟨_, rfl⟩
  have hr0 : 0 ≤ r := by omega
  rw [hr] at hC ⊢
  clear ho hr
  go_enter Try.func27, Try.ntmps27
  go_wp2_with fail
  refine hC.mono ?_
  clear hC
  rintro e w' ⟨rfl, h3⟩
  have h4 : Below w.heap.size w w' := hA.trans (h3.mono hA.size)
  clear h3 hA
  go_wp2_with fail
  go_ret
  exact ⟨rfl, h4⟩

/-- What the law holds in hand: its argument's block and its copy's, the model's bytes and the program's, the copy's terms. -/
structure St (d : Nat) (w Z : World) (A bx : Nat) (cA cX : Array Value) (BS : Nat) (vS : Value) (BG : Nat) (vG : Value) (xs : List Int) (vx : Value) (ts : List (Tm d)) (fp : List Nat) : Prop where
  a : Z.heap[A]? = some (.cells cA 24 (0, 0))
  x : Z.heap[bx]? = some (.cells cX 29 (0, 0))
  b : Below w.heap.size w Z
  s : Z.ownsRow BS 5 1 vS xs.length (xs.map (Value.int .u8))
  g : Z.ownsRow BG 5 1 vG xs.length (xs.map (Value.int .u8))
  o : OwnL d Z vx ts fp

theorem lt_of_row {w : World} {g : Nat} {o : Obj} (h : w.heap[g]? = some o) : g < w.heap.size := Nat.lt_of_not_le fun hn => by rw [Array.getElem?_eq_none hn] at h; cases h

theorem St.later {d : Nat} {w Z Z' : World} {A bx : Nat} {cA cX : Array Value} {BS : Nat} {vS : Value} {BG : Nat} {vG : Value} {xs : List Int} {vx : Value} {ts : List (Tm d)} {fp : List Nat} (h : St d w Z A bx cA cX BS vS BG vG xs vx ts fp) (hb : Below Z.heap.size Z Z') : St d w Z' A bx cA cX BS vS BG vG xs vx ts fp :=
  ⟨(hb.block _ (lt_of_row h.a)).trans h.a, (hb.block _ (lt_of_row h.x)).trans h.x, h.b.trans (hb.mono h.b.size), ownsRow_later h.s hb, ownsRow_later h.g hb, h.o.frame fun g hg => hb.block g (h.o.lt g hg)⟩

theorem ownsRow_at {w w' : World} {B n g c : Nat} {v : Value} {xs : List Value} (h : w.ownsRow B 5 1 v n xs) (hv : v = .slice (some ⟨g, 0, none⟩) n c) (hb : w'.heap[g]? = w.heap[g]?) : w'.ownsRow B 5 1 v n xs := by
  obtain ⟨h1, h2⟩ := h
  refine ⟨h1, ?_⟩
  rcases h2 with h2 | ⟨g', c', cur, e1, e2, e3, e4⟩
  · exact .inl h2
  · have e5 := e1
    rw [hv] at e5
    simp only [Value.slice.injEq, Option.some.injEq, Addr.mk.injEq, and_true, true_and] at e5
    obtain ⟨rfl, rfl⟩ := e5
    exact .inr ⟨g, c, cur, e1, e2, hb.trans e3, e4⟩

/-- What the law holds in hand when its copy is spent. -/
structure S2 (w Z : World) (A : Nat) (cA : Array Value) (BS : Nat) (vS : Value) (BG : Nat) (vG : Value) (xs : List Int) (gs : List Value) : Prop where
  a : Z.heap[A]? = some (.cells cA 24 (0, 0))
  b : Below w.heap.size w Z
  s : Z.ownsRow BS 5 1 vS xs.length (xs.map (Value.int .u8))
  g : Z.ownsRow BG 5 1 vG xs.length gs

theorem S2.later {w Z Z' : World} {A : Nat} {cA : Array Value} {BS : Nat} {vS : Value} {BG : Nat} {vG : Value} {xs : List Int} {gs : List Value} (h : S2 w Z A cA BS vS BG vG xs gs) (hb : Below Z.heap.size Z Z') : S2 w Z' A cA BS vS BG vG xs gs :=
  ⟨(hb.block _ (lt_of_row h.a)).trans h.a, h.b.trans (hb.mono h.b.size), ownsRow_later h.s hb, ownsRow_later h.g hb⟩

theorem S2.under {w Z Z' : World} {A : Nat} {cA : Array Value} {BS : Nat} {vS : Value} {BG : Nat} {vG : Value} {xs : List Int} {gs gs' : List Value} {gS cS : Nat} (h : S2 w Z A cA BS vS BG vG xs gs) (hb : Below BG Z Z') (hA : A < BG) (hw : w.heap.size ≤ BG)
    (hv : vS = .slice (some ⟨gS, 0, none⟩) xs.length cS) (hg : gS < BG) (hn : Z'.ownsRow BG 5 1 vG xs.length gs') : S2 w Z' A cA BS vS BG vG xs gs' :=
  ⟨(hb.block _ hA).trans h.a, h.b.trans (hb.mono hw), ownsRow_at h.s hv (hb.block _ hg), hn⟩

theorem St.spent {d : Nat} {w Z Z' : World} {A bx : Nat} {cA cX : Array Value} {BS : Nat} {vS : Value} {BG : Nat} {vG : Value} {xs : List Int} {vx : Value} {ts : List (Tm d)} {fp : List Nat} {gS cS lo : Nat} (h : St d w Z A bx cA cX BS vS BG vG xs vx ts fp) (hb : Wrote fp Z Z')
    (hf : ∀ g ∈ fp, lo ≤ g ∧ g < BG) (hA : A < lo) (hw : w.heap.size ≤ lo) (hv : vS = .slice (some ⟨gS, 0, none⟩) xs.length cS) (hg : gS < lo) (hgz : gS < Z.heap.size) : S2 w Z' A cA BS vS BG vG xs (xs.map (Value.int .u8)) :=
  ⟨(hb.block _ (lt_of_row h.a) (fun hm => by have := hf _ hm; omega)).trans h.a,
   h.b.trans ⟨hb.os, hb.tape, hb.output, hb.size, fun g hg => hb.block g (Nat.lt_of_lt_of_le hg h.b.size) (fun hm => by have := hf _ hm; omega)⟩,
   ownsRow_at h.s hv (hb.block _ hgz (fun hm => by have := hf _ hm; omega)), ownsRow_wrote h.g hb (fun g hm => (hf g hm).2)⟩

end Go.Proofs.Ytjdhkhpdhblhbaa
