/- What the law of PutCode holds in hand. -/
import Derived.Test.YtfachfimdenapaaDoorPc8M
import Derived.Test.YtfachfimdenapaaDoorMsCodeM
import Derived.Test.YtfachfimdenapaaDoorLawTM
namespace Go.Proofs.YtfachfimdenapaaDoor
open Go.RowKit
set_option linter.unusedVariables false

/-- What the law holds in hand: its argument's block and its copy's, the model's bytes and the program's, what the copy owns. -/
structure SC (d : Nat) (w Z : World) (A bx : Nat) (cA cX : Array Value) (BS : Nat) (vS : Value) (BG : Nat) (vG : Value) (xs : List Int) (vs : List Value) (x0 : DCode d) (fp : List Nat) : Prop where
  a : Z.heap[A]? = some (.cells cA 25 (0, 0))
  x : Z.heap[bx]? = some (.cells cX 32 (0, 0))
  b : Below w.heap.size w Z
  s : Z.ownsRow BS 5 1 vS xs.length (xs.map (Value.int .u8))
  g : Z.ownsRow BG 5 1 vG xs.length (xs.map (Value.int .u8))
  o : CodeO d Z vs x0 fp
  lt : ∀ g ∈ fp, g < Z.heap.size

theorem SC.later {d : Nat} {w Z Z' : World} {A bx : Nat} {cA cX : Array Value} {BS : Nat} {vS : Value} {BG : Nat} {vG : Value} {xs : List Int} {vs : List Value} {x0 : DCode d} {fp : List Nat} (h : SC d w Z A bx cA cX BS vS BG vG xs vs x0 fp) (hb : Below Z.heap.size Z Z') : SC d w Z' A bx cA cX BS vS BG vG xs vs x0 fp :=
  ⟨(hb.block _ (lt_of_row h.a)).trans h.a, (hb.block _ (lt_of_row h.x)).trans h.x, h.b.trans (hb.mono h.b.size), ownsRow_later h.s hb, ownsRow_later h.g hb, CodeO.lasts d _ _ _ _ _ h.o fun g hg => hb.block g (h.lt g hg), fun g hg => Nat.lt_of_lt_of_le (h.lt g hg) hb.size⟩

/-- What the law holds in hand when its copy is spent. -/
structure SC2 (w Z : World) (A : Nat) (cA : Array Value) (BS : Nat) (vS : Value) (BG : Nat) (vG : Value) (xs : List Int) (gs : List Value) : Prop where
  a : Z.heap[A]? = some (.cells cA 25 (0, 0))
  b : Below w.heap.size w Z
  s : Z.ownsRow BS 5 1 vS xs.length (xs.map (Value.int .u8))
  g : Z.ownsRow BG 5 1 vG xs.length gs

theorem SC2.later {w Z Z' : World} {A : Nat} {cA : Array Value} {BS : Nat} {vS : Value} {BG : Nat} {vG : Value} {xs : List Int} {gs : List Value} (h : SC2 w Z A cA BS vS BG vG xs gs) (hb : Below Z.heap.size Z Z') : SC2 w Z' A cA BS vS BG vG xs gs :=
  ⟨(hb.block _ (lt_of_row h.a)).trans h.a, h.b.trans (hb.mono h.b.size), ownsRow_later h.s hb, ownsRow_later h.g hb⟩

theorem SC2.under {w Z Z' : World} {A : Nat} {cA : Array Value} {BS : Nat} {vS : Value} {BG : Nat} {vG : Value} {xs : List Int} {gs gs' : List Value} {gS cS : Nat} (h : SC2 w Z A cA BS vS BG vG xs gs) (hb : Below BG Z Z') (hA : A < BG) (hw : w.heap.size ≤ BG)
    (hv : vS = .slice (some ⟨gS, 0, none⟩) xs.length cS) (hg : gS < BG) (hn : Z'.ownsRow BG 5 1 vG xs.length gs') : SC2 w Z' A cA BS vS BG vG xs gs' :=
  ⟨(hb.block _ hA).trans h.a, h.b.trans (hb.mono hw), ownsRow_at h.s hv (hb.block _ hg), hn⟩

theorem SC.spent {d : Nat} {w Z Z' : World} {A bx : Nat} {cA cX : Array Value} {BS : Nat} {vS : Value} {BG : Nat} {vG : Value} {xs : List Int} {vs : List Value} {x0 : DCode d} {fp : List Nat} {gS cS lo : Nat} (h : SC d w Z A bx cA cX BS vS BG vG xs vs x0 fp) (hb : Wrote fp Z Z')
    (hf : ∀ g ∈ fp, lo ≤ g ∧ g < BG) (hA : A < lo) (hw : w.heap.size ≤ lo) (hv : vS = .slice (some ⟨gS, 0, none⟩) xs.length cS) (hg : gS < lo) (hgz : gS < Z.heap.size) : SC2 w Z' A cA BS vS BG vG xs (xs.map (Value.int .u8)) :=
  ⟨(hb.block _ (lt_of_row h.a) (fun hm => by have := hf _ hm; omega)).trans h.a,
   h.b.trans ⟨hb.os, hb.tape, hb.output, hb.size, fun g hg => hb.block g (Nat.lt_of_lt_of_le hg h.b.size) (fun hm => by have := hf _ hm; omega)⟩,
   ownsRow_at h.s hv (hb.block _ hgz (fun hm => by have := hf _ hm; omega)), ownsRow_wrote h.g hb (fun g hm => (hf g hm).2)⟩

/-- The program's bytes, as long as the model's. -/
theorem pc_row {d : Nat} {c : DCode d} {w w' : World} {e : Ending} {xs : List Int} (h : PcP (CanP d c) w (encC c) e w') (hx : PcX d c xs) : ∃ v, e = .returned v ∧ w'.ownsRow w.heap.size 5 1 v xs.length (xs.map (Value.int .u8)) ∧ Below w.heap.size w w' := by
  obtain ⟨hb, h | ⟨h1, v, h2, g, c', h3, h4⟩⟩ := h
  · rcases hx with ⟨k1, _⟩ | ⟨_, k2⟩
    · exact absurd k1 h.1
    · rw [k2]
      exact ⟨_, h.2, ⟨rfl, .inl ⟨rfl, rfl⟩⟩, hb⟩
  · rcases hx with ⟨_, k2⟩ | ⟨k1, _⟩
    · rw [k2]
      exact ⟨v, h2, h4, hb⟩
    · exact absurd h1 k1

theorem pcx_len {d : Nat} {c : DCode d} {xs : List Int} (hx : PcX d c xs) (hz : szCodeD d c ≤ 1048576) : xs.length ≤ 1073741824 := by
  rcases hx with ⟨_, k2⟩ | ⟨_, k2⟩
  · rw [k2]; have := encC_le c; omega
  · rw [k2]; simp

end Go.Proofs.YtfachfimdenapaaDoor
