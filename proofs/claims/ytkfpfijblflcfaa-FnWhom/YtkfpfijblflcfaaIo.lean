/- Lists of numbers that a call makes: as they grow, and what they are at their end. -/
import Derived.Test.YtkfpfijblflcfaaMkR
import Derived.Test.YtkfpfijblflcfaaDt0
namespace Go.Proofs.Ytkfpfijblflcfaa
open Go.RowKit
set_option linter.unusedVariables false

/-- The numbers from a on, n of them. -/
def rngI (a : Int) (n : Nat) : List Int := (List.range n).map (fun k : Nat => a + (k : Int))
theorem rngI_succ (a : Int) (n : Nat) : rngI a (n + 1) = rngI a n ++ [a + (n : Int)] := by unfold rngI; rw [List.range_succ, List.map_append]; rfl
theorem rngI_len (a : Int) (n : Nat) : (rngI a n).length = n := by simp [rngI]
theorem rngI_zero (a : Int) : rngI a 0 = [] := rfl

/-- A row of numbers under way, at or behind block B. -/
def IoW (B : Nat) (w : World) (v : Value) (l : List Int) : Prop := w.ownsRow B 3 1 v l.length (l.map (Value.int .i64))
theorem IoW.nil (B : Nat) (w : World) : IoW B w (.slice none 0 0) [] := ⟨by simp, .inl ⟨rfl, rfl⟩⟩
theorem IoW.empty {B g : Nat} {w : World} (h : w.heap[g]? = some (.cells #[] 3 (0, 0))) (hB : B ≤ g) : IoW B w (.slice (some ⟨g, 0, none⟩) 0 0) [] :=
  ⟨by simp, .inr ⟨g, 0, #[], rfl, hB, h, Nat.le_refl _, Nat.zero_le _, by simp, by simp⟩⟩

/-- A list of numbers that the call has made. -/
def IoRes (l : List Int) (w : World) (e : Ending) (w' : World) : Prop :=
  ∃ (a : Option Addr) (c : Nat) (fp : List Nat), e = .returned (.slice a l.length c) ∧ Hid (OwnRow 1 3 InO w' (.slice a l.length c) l fp ∧ Fresh w.heap.size w' fp) ∧ Below w.heap.size w w'

theorem IoRes.none {w w' : World} (h : Below w.heap.size w w') : IoRes [] w (.returned (.slice none 0 0)) w' := ⟨_, 0, [], rfl, ⟨.inl ⟨rfl, rfl, _, _, rfl⟩, ⟨List.nodup_nil, fun g hg => by cases hg⟩⟩, h⟩

theorem flat_nil (n : Nat) : (List.replicate n ([] : List Nat)).flatten = [] := by
  induction n with
  | zero => rfl
  | succ n ih => rw [List.replicate_succ, List.flatten_cons, ih]; rfl

theorem IoW.res {w w' : World} {v : Value} {l : List Int} (h : IoW w.heap.size w' v l) (hb : Below w.heap.size w w') : IoRes l w (.returned v) w' := by
  have h1 : (l.map (Value.int .i64)).length = l.length := by simp
  rcases h.2 with ⟨rfl, e⟩ | ⟨g, c, cur, e1, e2, e3, e4, e5, e6, e7⟩
  · obtain rfl := List.length_eq_zero_iff.1 e
    exact .none hb
  · refine ⟨some ⟨g, 0, none⟩, c, [g], by rw [e1], ⟨.inr ⟨g, c, cur, List.replicate l.length [], by simp, e3, ⟨by simp, e4⟩, by rw [flat_nil], fun i x hx => ⟨[.int .i64 x], [], ?_, rfl, fun j u hu => ?_, rfl, rfl⟩⟩, ⟨by simp, fun y hy => by obtain rfl := List.mem_singleton.1 hy; exact ⟨e2, lt_row e3⟩⟩⟩, hb⟩
    · have := (List.getElem?_eq_some_iff.1 hx).1
      rw [List.getElem?_replicate, if_pos this]
    · have hj : j = 0 := by have := (List.getElem?_eq_some_iff.1 hu).1; simp at this; omega
      subst hj
      obtain rfl : u = .int .i64 x := by simpa using hu.symm
      rw [← Array.getElem?_toList]
      refine take_at e7 ?_
      rw [Nat.mul_one, Nat.add_zero, List.getElem?_map, hx]
      rfl

theorem IoW.alloc {B : Nat} {w : World} {v : Value} {l : List Int} (h : IoW B w v l) (o : Obj) : IoW B (w.alloc o) v l := World.ownsRow.alloc h o
theorem IoW.snoc {B : Nat} {w : World} {v : Value} {l : List Int} {x : Int} (h : w.ownsRow B 3 1 v (l.length + 1) (l.map (Value.int .i64) ++ [.int .i64 x])) : IoW B w v (l ++ [x]) := by
  unfold IoW
  rw [List.length_append, List.map_append]
  exact h
theorem IoW.lt {B : Nat} {w : World} {v : Value} {l : List Int} (h : IoW B w v l) : ∀ k, v.ownBlock = some k → B ≤ k ∧ k < w.heap.size := fun k hk => World.ownsRow.lt h k hk
theorem int_new {w : World} (x : Value) : ∀ j u, [x][j]? = some u → (w.alloc (.cells #[x] 3)).cell? (Addr.add ⟨w.heap.size, 0, none⟩ j) = some u := fun j u hu => by
  have hj : j = 0 := by have := (List.getElem?_eq_some_iff.1 hu).1; simp at this; omega
  subst hj
  obtain rfl : u = x := by simpa using hu.symm
  rw [Addr.add_lit, cell_of_row _ _ _ _ _ _ (heap_alloc_new w _)]
  rfl
theorem int_one (x : Int) : ∀ u ∈ ([.int .i64 x] : List Value), u.oneCell' = true := fun u hu => by
  obtain rfl := List.mem_singleton.1 hu
  rfl
theorem IoW.next {B : Nat} {w wr w' : World} {v v' : Value} {l : List Int} {x : Int} {o : Obj} (h : IoW B wr v l) (hb : Below B w wr) (hs : B ≤ wr.heap.size) (ho : w'.ownsRow B 3 1 v' (l.length + 1) (l.map (Value.int .i64) ++ [.int .i64 x])) (hg : (wr.alloc o).grownBy w' v.ownBlock) : IoW B w' v' (l ++ [x]) ∧ Below B w w' :=
  ⟨IoW.snoc ho, (hb.alloc hs _).grown hg (by simp; omega) (fun k hk => (h.lt k hk).1)⟩

end Go.Proofs.Ytkfpfijblflcfaa
