/- The program's bytes of a term: those of the model. -/
import Derived.Test.YtfegiccjfepnnaaDoorTPutSM
import Derived.Test.YtfegiccjfepnnaaDoorIOkM
namespace Go.Proofs.YtfegiccjfepnnaaDoor
open Go.RowKit
set_option linter.unusedVariables false

/-- A kind that a term may have. -/
theorem shape_kind {k n : Int} {s : ByteArray} {len : Nat} (h : Shape k n s len) : k = 1 ∨ k = 2 ∨ k = 3 ∨ k = 4 ∨ k = 5 := by
  rcases h with h | h | h | h | h
  · exact .inl h.1
  · exact .inr (.inl h.1)
  · exact .inr (.inr (.inl h.1))
  · exact .inr (.inr (.inr (.inl h.1)))
  · exact .inr (.inr (.inr (.inr h.1)))

@[go_sem] theorem meth_intForm (v : Value) (w : World) : (method 293 123 v "loop.example/g00236/impl.kind").run Tryd.prog w = .ok (86, v) w := by kernel_rfl

theorem kind_intForm (v : Value) (w : World) : Calls Tryd.prog 86 #[v] w fun e w' => e = .returned (.int .i64 1) ∧ w = w' := by
  go_enter Tryd.func86, Tryd.ntmps86
  go_wp2
  go_ret
  exact ⟨rfl, rfl⟩

@[go_sem] theorem meth_atomForm (v : Value) (w : World) : (method 293 125 v "loop.example/g00236/impl.kind").run Tryd.prog w = .ok (87, v) w := by kernel_rfl

theorem kind_atomForm (v : Value) (w : World) : Calls Tryd.prog 87 #[v] w fun e w' => e = .returned (.int .i64 2) ∧ w = w' := by
  go_enter Tryd.func87, Tryd.ntmps87
  go_wp2
  go_ret
  exact ⟨rfl, rfl⟩

@[go_sem] theorem meth_pidForm (v : Value) (w : World) : (method 293 124 v "loop.example/g00236/impl.kind").run Tryd.prog w = .ok (88, v) w := by kernel_rfl

theorem kind_pidForm (v : Value) (w : World) : Calls Tryd.prog 88 #[v] w fun e w' => e = .returned (.int .i64 3) ∧ w = w' := by
  go_enter Tryd.func88, Tryd.ntmps88
  go_wp2
  go_ret
  exact ⟨rfl, rfl⟩

@[go_sem] theorem meth_tupleForm (v : Value) (w : World) : (method 293 127 v "loop.example/g00236/impl.kind").run Tryd.prog w = .ok (89, v) w := by kernel_rfl

theorem kind_tupleForm (v : Value) (w : World) : Calls Tryd.prog 89 #[v] w fun e w' => e = .returned (.int .i64 4) ∧ w = w' := by
  go_enter Tryd.func89, Tryd.ntmps89
  go_wp2
  go_ret
  exact ⟨rfl, rfl⟩

@[go_sem] theorem meth_listForm (v : Value) (w : World) : (method 293 128 v "loop.example/g00236/impl.kind").run Tryd.prog w = .ok (90, v) w := by kernel_rfl

theorem kind_listForm (v : Value) (w : World) : Calls Tryd.prog 90 #[v] w fun e w' => e = .returned (.int .i64 5) ∧ w = w' := by
  go_enter Tryd.func90, Tryd.ntmps90
  go_wp2
  go_ret
  exact ⟨rfl, rfl⟩

/-- What is owned stays so where only new blocks come. -/
theorem ownsRow_later {w w' : World} {B n : Nat} {v : Value} {xs : List Value} (h : w.ownsRow B 5 1 v n xs) (hb : Below w.heap.size w w') : w'.ownsRow B 5 1 v n xs := by
  obtain ⟨h1, h2⟩ := h
  refine ⟨h1, ?_⟩
  rcases h2 with h2 | ⟨g, c, cur, e1, e2, e3, e4⟩
  · exact .inl h2
  · exact .inr ⟨g, c, cur, e1, e2, (hb.block g (Nat.lt_of_not_le fun hn => by rw [Array.getElem?_eq_none hn] at e3; cases e3)).trans e3, e4⟩

theorem owns_some {w : World} {B n : Nat} {v : Value} {xs : List Value} (h : w.ownsRow B 5 1 v n xs) (hn : 0 < n) : ∃ g c, v = .slice (some ⟨g, 0, none⟩) n c := by
  rcases h.2 with ⟨_, h2⟩ | ⟨g, c, cur, e1, _⟩
  · omega
  · exact ⟨g, c, e1⟩

end Go.Proofs.YtfegiccjfepnnaaDoor
