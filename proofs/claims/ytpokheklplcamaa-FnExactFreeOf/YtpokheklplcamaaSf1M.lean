/- The model's FreeOf: rows of texts, one of which is written. -/
import Derived.Test.YtpokheklplcamaaFr13M
import Derived.Test.YtpokheklplcamaaLk1M
import Derived.OrdersHeld
import Derived.Deep.DeepCutAuto
namespace Go.Proofs.Ytpokheklplcamaa
open Go.RowKit
set_option linter.unusedVariables false

/-- A row of texts at a block. -/
def RowAt (w : World) (g c : Nat) (l : List ByteArray) : Prop := w.ownsRow 0 9 1 (.slice (some ⟨g, 0, none⟩) l.length c) l.length (l.map Value.string)

theorem RowAt.lt {w : World} {g c : Nat} {l : List ByteArray} (h : RowAt w g c l) : g < w.heap.size := (own_blk h g rfl).2
theorem RowAt.kept {w w' : World} {g c : Nat} {l : List ByteArray} (h : RowAt w g c l) (hb : w'.heap[g]? = w.heap[g]?) : RowAt w' g c l := rowKept h fun k hk => by
  have : g = k := by simpa [Value.ownBlock] using hk
  rw [← this]; exact hb
theorem RowAt.cells {w : World} {g c : Nat} {l : List ByteArray} (h : RowAt w g c l) : ∀ (j : Nat) (u : Value), (l.map Value.string)[j]? = some u → w.cell? ((⟨g, 0, none⟩ : Addr).add j) = some u := (StrRow.cells (B := 0) h).2
theorem RowAt.tells {w : World} {g c : Nat} {l : List ByteArray} (h : RowAt w g c l) : ∀ (i : Nat) (s : ByteArray), l[i]? = some s → ∃ b o, (some ⟨g, 0, none⟩ : Option Addr) = some ⟨b, o, none⟩ ∧ w.cell? ⟨b, o + i, none⟩ = some (.string s) := by
  obtain ⟨a, c', e, h'⟩ := StrRow.tellS (B := 0) h
  simp only [Value.slice.injEq] at e
  obtain ⟨rfl, _, _⟩ := e
  exact h'

/-- Only the row at o is written, or a new one. -/
structure Grew (w wx : World) (o g : Nat) : Prop where
  grown : w.grownBy wx (some o)
  at' : g = o ∨ w.heap.size ≤ g
theorem Grew.refl (w : World) (o : Nat) : Grew w w o o := ⟨grown_refl _ _, .inl rfl⟩
theorem Grew.trans {w wx wy : World} {o g g' : Nat} (h : Grew w wx o g) (h' : Grew wx wy g g') : Grew w wy o g' := by
  have k := h.grown
  have k' := h'.grown
  have hs := k.size
  refine ⟨⟨k'.os.trans k.os, k'.tape.trans k.tape, k'.output.trans k.output, Nat.le_trans k.size k'.size, fun i hi hne => ?_⟩, ?_⟩
  · have hio : i ≠ o := fun e => hne (by rw [e])
    rw [k'.block i (by omega) (by
      intro e
      simp only [Option.some.injEq] at e
      rcases h.at' with h1 | h1
      · exact hio (e.trans h1)
      · omega), k.block i hi hne]
  · rcases h'.at' with h1 | h1
    · rw [h1]; exact h.at'
    · exact .inr (by omega)
theorem Grew.below {w wx wy : World} {o g : Nat} (h : Grew w wx o g) (hb : Below wx.heap.size wx wy) : Grew w wy o g :=
  h.trans ⟨⟨hb.os, hb.tape, hb.output, hb.size, fun i hi _ => hb.block i hi⟩, .inl rfl⟩

theorem freeX_len : ∀ (d : Nat) (b out : List ByteArray) (x : Ex d), (freeX d b out x).length ≤ out.length + 1 + szX d x
  | 0, b, out, x => by show out.length ≤ _; omega
  | d + 1, b, out, x => by
    have h1 : ∀ (xs : List (Ex d)) (o : List ByteArray), (xs.foldl (fun o x => freeX d b o x) o).length ≤ o.length + szRow (szX d) xs := fun xs => by
      unfold szRow
      induction xs with
      | nil => intro o; exact Nat.le_add_right _ _
      | cons y ys ih =>
        intro o
        simp only [List.foldl_cons, List.map_cons, List.sum_cons, List.length_cons]
        have := ih (freeX d b o y)
        have := freeX_len d b o y
        omega
    have h2 : ∀ (xs : List (Ex d × Ex d)) (o : List ByteArray), (xs.foldl (fun o c => freeX d (b ++ vars d c.1) o c.2) o).length ≤ o.length + szRow (ClF (szX d)) xs := fun xs => by
      unfold szRow
      induction xs with
      | nil => intro o; exact Nat.le_add_right _ _
      | cons y ys ih =>
        intro o
        simp only [List.foldl_cons, List.map_cons, List.sum_cons, List.length_cons]
        have := ih (freeX d (b ++ vars d y.1) o y.2)
        have := freeX_len d (b ++ vars d y.1) o y.2
        have : ClF (szX d) y = szX d y.1 + szX d y.2 := rfl
        omega
    have q1 := tellX_len b out x.K x.S
    have q2 := h1 x.E (tellX b out x.K x.S)
    have q3 := h2 x.C (x.E.foldl (fun o x => freeX d b o x) (tellX b out x.K x.S))
    show (x.C.foldl (fun o c => freeX d (b ++ vars d c.1) o c.2) (x.E.foldl (fun o x => freeX d b o x) (tellX b out x.K x.S))).length ≤ out.length + 1 + (x.S.size + szRow (szX d) x.E + szRow (ClF (szX d)) x.C)
    omega

/-- The contract of the model's walk. -/
def FrC (d : Nat) : Prop := ∀ (vs : List Value) (x : Ex d) (fp : List Nat) (w : World) (og oc : Nat) (out : List ByteArray) (bg bc : Nat) (but : List ByteArray), ExO d w vs x fp → (∀ g ∈ fp, g < w.heap.size) → szX d x ≤ 1048576 → RowAt w og oc out → RowAt w bg bc but → ¬ og ∈ fp → og ≠ bg → out.length + 1 + szX d x ≤ 4000000 → but.length + 1 + szX d x ≤ 4000000 →
  Calls Try.prog 37 #[.slice (some ⟨og, 0, none⟩) out.length oc, .slice (some ⟨bg, 0, none⟩) but.length bc, .agg vs.toArray] w fun e w' => ∃ g' n' c', e = .returned (.slice (some ⟨g', 0, none⟩) n' c') ∧ Hid (n' = (freeX d but out x).length ∧ RowAt w' g' c' (freeX d but out x) ∧ Grew w w' og g')

end Go.Proofs.Ytpokheklplcamaa

/- The model's FreeOf: its walk. -/
namespace Go.Proofs.Ytpokheklplcamaa
open Go.RowKit
set_option linter.unusedVariables false

theorem foldE_len {d : Nat} {b : List ByteArray} : ∀ (xs : List (Ex d)) (o : List ByteArray), (xs.foldl (fun o x => freeX d b o x) o).length ≤ o.length + szRow (szX d) xs
  | [], o => Nat.le_add_right _ _
  | y :: ys, o => by
    have h1 := foldE_len (b := b) ys (freeX d b o y)
    have h2 := freeX_len d b o y
    unfold szRow at h1 ⊢
    simp only [List.foldl_cons, List.map_cons, List.sum_cons, List.length_cons]
    omega
theorem foldC_len {d : Nat} {b : List ByteArray} : ∀ (xs : List (Ex d × Ex d)) (o : List ByteArray), (xs.foldl (fun o c => freeX d (b ++ vars d c.1) o c.2) o).length ≤ o.length + szRow (ClF (szX d)) xs
  | [], o => Nat.le_add_right _ _
  | y :: ys, o => by
    have h1 := foldC_len (b := b) ys (freeX d (b ++ vars d y.1) o y.2)
    have h2 := freeX_len d (b ++ vars d y.1) o y.2
    have h3 : ClF (szX d) y = szX d y.1 + szX d y.2 := rfl
    unfold szRow at h1 ⊢
    simp only [List.foldl_cons, List.map_cons, List.sum_cons, List.length_cons]
    omega
theorem szRow_take {α : Type} {f : α → Nat} {xs : List α} {j : Nat} {x : α} (h : xs[j]? = some x) : szRow f (xs.take j) + 1 + f x ≤ szRow f xs := by
  have hl := (List.getElem?_eq_some_iff.1 h).1
  have h1 : xs = xs.take j ++ x :: xs.drop (j + 1) := by rw [← drop_next h, List.take_append_drop]
  have h2 : szRow f xs = szRow f (xs.take j ++ x :: xs.drop (j + 1)) := by rw [← h1]
  rw [h2]
  unfold szRow
  simp only [List.length_append, List.map_append, List.sum_append, List.map_cons, List.sum_cons, List.length_cons]
  omega
theorem foldE_next {d : Nat} {b o : List ByteArray} {xs : List (Ex d)} {j : Nat} {x : Ex d} (h : xs[j]? = some x) : (xs.take (j + 1)).foldl (fun o x => freeX d b o x) o = freeX d b ((xs.take j).foldl (fun o x => freeX d b o x) o) x := by
  rw [List.take_add_one, h, List.foldl_append]; rfl
theorem foldC_next {d : Nat} {b o : List ByteArray} {xs : List (Ex d × Ex d)} {j : Nat} {x : Ex d × Ex d} (h : xs[j]? = some x) : (xs.take (j + 1)).foldl (fun o c => freeX d (b ++ vars d c.1) o c.2) o = freeX d (b ++ vars d x.1) ((xs.take j).foldl (fun o c => freeX d (b ++ vars d c.1) o c.2) o) x.2 := by
  rw [List.take_add_one, h, List.foldl_append]; rfl

/-- What stays while the row is written. -/
structure Stays (B wx : World) (E og g : Nat) (ob : Array Value) (bg bc : Nat) (but : List ByteArray) (fp : List Nat) : Prop where
  grew : Grew B wx og g
  box : wx.heap[E]? = some (.cells ob 27 (0, 0))
  row : RowAt wx bg bc but
  blk : ∀ k ∈ fp, wx.heap[k]? = B.heap[k]?
  far : g ≠ E ∧ g ≠ bg ∧ ¬ g ∈ fp
theorem Stays.on {B wx wy : World} {E og g g' : Nat} {ob : Array Value} {bg bc : Nat} {but : List ByteArray} {fp : List Nat} (h : Stays B wx E og g ob bg bc but fp) (h' : Grew wx wy g g') (hfp : ∀ k ∈ fp, k < B.heap.size) : Stays B wy E og g' ob bg bc but fp := by
  have hs := h.grew.grown.size
  have hk : ∀ k, k < wx.heap.size → k ≠ g → wy.heap[k]? = wx.heap[k]? := fun k hk hne => h'.grown.block k hk (by simpa using hne)
  refine ⟨h.grew.trans h', (hk _ (lt_row h.box) h.far.1.symm).trans h.box, h.row.kept (hk _ h.row.lt h.far.2.1.symm), fun k hk' => (hk k (by have := hfp k hk'; omega) (fun e => h.far.2.2 (e ▸ hk'))).trans (h.blk k hk'), ?_⟩
  rcases h'.at' with e | e
  · rw [e]; exact h.far
  · have := lt_row h.box
    have := h.row.lt
    exact ⟨by omega, by omega, fun hm => by have := hfp g' hm; omega⟩
theorem Stays.later {B wx wy : World} {E og g : Nat} {ob : Array Value} {bg bc : Nat} {but : List ByteArray} {fp : List Nat} (h : Stays B wx E og g ob bg bc but fp) (hb : Below wx.heap.size wx wy) (hfp : ∀ k ∈ fp, k < B.heap.size) : Stays B wy E og g ob bg bc but fp :=
  h.on ⟨⟨hb.os, hb.tape, hb.output, hb.size, fun i hi _ => hb.block i hi⟩, .inl rfl⟩ hfp

theorem step_append_own' {P : Program} {ops : Array Oper} {o : Oper} {a : Act} {w : World} {K : Act → World → Prop} {Q : Exit → Act → World → Prop} {E : Prop}
    (hg : o.guard = none) (s x : Operand) (t : TypeId) (hop : o.op = Op.call { callee := Callee.builtin Builtin.append, args := #[s, x], argTypes := #[t, t] })
    (base : Nat) (e : TypeId) (i : TypeInfo) (z : Value) (size bytes : Nat) (ht : P.underlying t = some (.slice e)) (hi : P.info? e = some i) (hz : i.zero = some z)
    (hsize : i.size = size) (hby : i.bytes = bytes) (hzs : z.cells.size = size) (hsz : 0 < size)
    (v : Value) (n : Nat) (xs : List Value) (hs : a.eval s = v) (hown : w.ownsRow base e size v n xs)
    (ad : Addr) (m c : Nat) (news : List Value) (hx : a.eval x = .slice (some ad) m c) (hl : news.length = m * size) (hnews : ∀ j u, news[j]? = some u → w.cell? (ad.add j) = some u) (h1 : ∀ u ∈ news, u.oneCell' = true)
    (h63 : n + m ≤ maxLen) (hbytes : (n + m) * bytes ≤ 140737488355328) (hbase : base ≤ w.heap.size)
    (hK : ∀ v' w', w'.ownsRow base e size v' (n + m) (xs ++ news) → w.grownBy w' v.ownBlock → (v' = .slice none 0 0 ↔ v = .slice none 0 0 ∧ m = 0) → (v'.ownBlock = v.ownBlock ∨ v'.ownBlock = some w.heap.size) → K (a.put o.dst v') w') :
    if Region.wanted o (yielded ops a.tmps) = true then Oper.wp P o a w K Q else E := by
  have hw : Region.wanted o (yielded ops a.tmps) = true := by simp [Region.wanted, hg]
  rw [if_pos hw]
  obtain ⟨v', w', hr, h2, h3, h4, h5⟩ := run_append_own_at (P := P) w base t o.type e i z size bytes ht hi hz hsize hby hzs hsz v n xs hown ad m c news hl hnews h1 h63 hbytes hbase
  unfold Oper.wp
  simp [execOp, hop, resolve, invoke, builtin, hs, hx, hr, Result.andThen]
  exact hK v' w' h2 h3 h4 h5
theorem row_some {w : World} {B e z n : Nat} {v : Value} {xs : List Value} (h : w.ownsRow B e z v n xs) (hv : v ≠ .slice none 0 0) : ∃ g c, v = .slice (some ⟨g, 0, none⟩) n c ∧ B ≤ g := by
  rcases h.2 with ⟨e, _⟩ | ⟨g, c, cur, e, q, _⟩
  · exact absurd e hv
  · exact ⟨g, c, e, q⟩
theorem Try.buildNone (w : World) : (Instr.buildSlice 29 0 #[]).run Try.prog w = .ok (.slice (some ⟨w.heap.size, 0, none⟩) 0 0) (w.alloc (.cells #[] 9)) := by go_simp
theorem run_buildNone {P : Program} {a : Act} {o : Oper} {t n : Nat} {r : Value} {w w' : World} (hb : (Instr.buildSlice t n #[]).run P w = .ok r w') (ho : o.op = .buildSlice t n #[]) : (execOp a.eval o).run P w = .ok (.value r) w' := by
  simp [execOp, ho, hb, Result.andThen]
theorem Try.fieldP' (b o : Nat) (w : World) : (Instr.fieldAt 33 (.pointer (some ⟨b, o, none⟩)) 0).run Try.prog w = .ok (.pointer (some ⟨b, o, none⟩)) w := by go_simp
theorem Try.indexC (b l c i : Nat) (hi : i < l) (w : World) : (Instr.indexAt 25 (.slice (some ⟨b, 0, none⟩) l c) (.int .i64 i)).run Try.prog w = .ok (.pointer (some ⟨b, i * 10, none⟩)) w := by
  have h : (i : Int) < (l : Int) := by omega
  go_simp
theorem run_index {P : Program} {a : Act} {o : Oper} {t x y : Nat} {v i r : Value} (hb : ∀ w, (Instr.indexAt t v i).run P w = .ok r w) (ho : o.op = .indexAddr t (.tmp x) (.tmp y)) (h : a.eval (.tmp x) = v) (h' : a.eval (.tmp y) = i) (w : World) : (execOp a.eval o).run P w = .ok (.value r) w := by
  simp [execOp, ho, h, h', hb, Result.andThen]
theorem Try.loadX (b o : Nat) (i0 i1 : Int) (s : ByteArray) (a3 : Option Addr) (l3 c3 : Nat) (a4 : Option Addr) (l4 c4 : Nat) (w : World) (h0 : w.cell? ⟨b, o, none⟩ = some (.int .i64 i0)) (h1 : w.cell? ⟨b, o + 1, none⟩ = some (.int .i64 i1)) (h2 : w.cell? ⟨b, o + 2, none⟩ = some (.string s)) (h3 : w.cell? ⟨b, o + 3, none⟩ = some (.slice a3 l3 c3)) (h4 : w.cell? ⟨b, o + 4, none⟩ = some (.slice a4 l4 c4)) : (Instr.loadAt 27 (.pointer (some ⟨b, o, none⟩))).run Try.prog w = .ok (.agg #[.int .i64 i0, .int .i64 i1, .string s, .slice a3 l3 c3, .slice a4 l4 c4]) w := by go_simp
theorem Try.enterVars (args : Array Value) (w : World) : (callFunc 18 args).run Try.prog w = .ok (.enter 18 args) w := by go_simp

end Go.Proofs.Ytpokheklplcamaa

/- The model's FreeOf: its loops. -/
namespace Go.Proofs.Ytpokheklplcamaa
open Go.RowKit
set_option linter.unusedVariables false

set_option maxRecDepth 100000 in
set_option maxHeartbeats 8000000 in
theorem l4Free_of (d : Nat) (H : FrC d) : FrC (d + 1) := by
  rintro vs x fp w og oc out bg bc but ⟨ve, vc, f1, f2, rfl, rfl, o1, o2⟩ hlt hz hO hBt hof hob hn1 hn2
  have hz1 : x.S.size + szRow (szX d) x.E + szRow (ClF (szX d)) x.C ≤ 1048576 := hz
  have m1 : x.E.length ≤ szRow (szX d) x.E := Nat.le_add_right _ _
  have m2 : x.C.length ≤ szRow (ClF (szX d)) x.C := Nat.le_add_right _ _
  have HZ : Hid (szRow (szX d) x.E + szRow (ClF (szX d)) x.C ≤ 1048576 ∧ x.S.size ≤ 1048576) := ⟨by omega, by omega⟩
  have hszd : szX (d + 1) x = x.S.size + szRow (szX d) x.E + szRow (ClF (szX d)) x.C := rfl
  have HEL : Hid (∀ (i : Nat) (e : Ex d), x.E[i]? = some e → ∃ b vs f, (∃ n c, ve = .slice (some ⟨b, 0, none⟩) n c) ∧ b ∈ f1 ++ f2 ∧ ShExpr vs ∧ (∀ V : World, V.heap[b]? = w.heap[b]? → ∀ (j : Nat) (u : Value), vs[j]? = some u → V.cell? ⟨b, i * 5 + j, none⟩ = some u) ∧ ExO d w vs e f ∧ ∀ k ∈ f, k ∈ f1 ++ f2) := fun i e he => by
    rcases o1 with ⟨e0, _⟩ | ⟨b, c, cur, fps, q1, q2, q3, q4, q5⟩
    · rw [e0] at he; simp at he
    · obtain ⟨vs, f, r1, r2, r3, r4⟩ := q5 i e he
      refine ⟨b, vs, f, ⟨_, _, q1⟩, by rw [q4]; simp, ExO.shape d _ _ _ _ r4, fun V hV j u hu => by rw [cell_of_row V _ _ _ _ _ (hV.trans q2)]; exact r3 j u hu, r4, fun k hk => ?_⟩
      rw [q4]
      exact List.mem_append_left _ (List.mem_cons_of_mem _ (List.mem_flatten.2 ⟨f, List.mem_of_getElem? r1, hk⟩))
  have HCL : Hid (∀ (i : Nat) (e : Ex d × Ex d), x.C[i]? = some e → ∃ b ps us f f', (∃ n c, vc = .slice (some ⟨b, 0, none⟩) n c) ∧ b ∈ f1 ++ f2 ∧ ShExpr ps ∧ ShExpr us ∧ (∀ V : World, V.heap[b]? = w.heap[b]? → ∀ (j : Nat) (u : Value), ps[j]? = some u → V.cell? ⟨b, i * 10 + j, none⟩ = some u) ∧ (∀ V : World, V.heap[b]? = w.heap[b]? → ∀ (j : Nat) (u : Value), us[j]? = some u → V.cell? ⟨b, i * 10 + 5 + j, none⟩ = some u) ∧ ExO d w ps e.1 f ∧ ExO d w us e.2 f' ∧ ∀ k ∈ f ++ f', k ∈ f1 ++ f2) := fun i e he => by
    rcases o2 with ⟨e0, _⟩ | ⟨b, c, cur, fps, q1, q2, q3, q4, q5⟩
    · rw [e0] at he; simp at he
    · obtain ⟨vs, f, r1, r2, r3, ps, us, g1, g2, rfl, rfl, r4, r5⟩ := q5 i e he
      have l1 : ps.length = 5 := by obtain ⟨_, _, _, _, _, _, _, _, _, rfl⟩ := ExO.shape d _ _ _ _ r4; rfl
      refine ⟨b, ps, us, g1, g2, ⟨_, _, q1⟩, by rw [q4]; simp, ExO.shape d _ _ _ _ r4, ExO.shape d _ _ _ _ r5, fun V hV j u hu => by rw [cell_of_row V _ _ _ _ _ (hV.trans q2)]; exact r3 j u (by rw [List.getElem?_append_left (List.getElem?_eq_some_iff.1 hu).1]; exact hu), fun V hV j u hu => by rw [cell_of_row V _ _ _ _ _ (hV.trans q2)]; have := r3 (5 + j) u (by rw [List.getElem?_append_right (by omega), l1, Nat.add_sub_cancel_left]; exact hu); rw [← Nat.add_assoc] at this; exact this, r4, r5, fun k hk => ?_⟩
      rw [q4]
      exact List.mem_append_right _ (List.mem_cons_of_mem _ (List.mem_flatten.2 ⟨g1 ++ g2, List.mem_of_getElem? r1, hk⟩))
  obtain ⟨a3, c3, rfl⟩ := own_len o1
  obtain ⟨a4, c4, rfl⟩ := own_len o2
  have HEL2 : Hid (∀ (i : Nat) (e : Ex d), x.E[i]? = some e → ∃ b vs f, a3 = some ⟨b, 0, none⟩ ∧ b ∈ f1 ++ f2 ∧ ShExpr vs ∧ (∀ V : World, V.heap[b]? = w.heap[b]? → ∀ (j : Nat) (u : Value), vs[j]? = some u → V.cell? ⟨b, i * 5 + j, none⟩ = some u) ∧ ExO d w vs e f ∧ ∀ k ∈ f, k ∈ f1 ++ f2) := fun i e he => by
    obtain ⟨b, vs, f, ⟨n, c, q1⟩, q2⟩ := HEL.out i e he
    simp only [Value.slice.injEq] at q1
    exact ⟨b, vs, f, q1.1, q2⟩
  have HCL2 : Hid (∀ (i : Nat) (e : Ex d × Ex d), x.C[i]? = some e → ∃ b ps us f f', a4 = some ⟨b, 0, none⟩ ∧ b ∈ f1 ++ f2 ∧ ShExpr ps ∧ ShExpr us ∧ (∀ V : World, V.heap[b]? = w.heap[b]? → ∀ (j : Nat) (u : Value), ps[j]? = some u → V.cell? ⟨b, i * 10 + j, none⟩ = some u) ∧ (∀ V : World, V.heap[b]? = w.heap[b]? → ∀ (j : Nat) (u : Value), us[j]? = some u → V.cell? ⟨b, i * 10 + 5 + j, none⟩ = some u) ∧ ExO d w ps e.1 f ∧ ExO d w us e.2 f' ∧ ∀ k ∈ f ++ f', k ∈ f1 ++ f2) := fun i e he => by
    obtain ⟨b, ps, us, f, f', ⟨n, c, q1⟩, q2⟩ := HCL.out i e he
    simp only [Value.slice.injEq] at q1
    exact ⟨b, ps, us, f, f', q1.1, q2⟩
  clear HEL HCL
  have HEL := HEL2
  have HCL := HCL2
  clear HEL2 HCL2
  obtain ⟨fp, hfp⟩ : ∃ l, f1 ++ f2 = l := ⟨_, rfl⟩
  rw [hfp] at HEL HCL hlt hof
  obtain ⟨ACC, hACC⟩ : ∃ l, tellX but out x.K x.S = l := ⟨_, rfl⟩
  have hAl := tellX_len but out x.K x.S
  obtain ⟨AE, hAE⟩ : ∃ l, x.E.foldl (fun o x => freeX d but o x) ACC = l := ⟨_, rfl⟩
  obtain ⟨FIN, hFIN⟩ : ∃ l, x.C.foldl (fun o c => freeX d (but ++ vars d c.1) o c.2) AE = l := ⟨_, rfl⟩
  have hfin : freeX (d + 1) but out x = FIN := by rw [← hFIN, ← hAE, ← hACC]; rfl
  have hAEl := foldE_len (b := but) x.E ACC
  rw [hAE] at hAEl
  rw [hACC] at hAl
  rw [hfin]
  have HAE : Hid (x.E.foldl (fun o x => freeX d but o x) ACC = AE) := hAE
  have HFIN : Hid (x.C.foldl (fun o c => freeX d (but ++ vars d c.1) o c.2) AE = FIN) := hFIN
  have HBD : Hid (ACC.length + szRow (szX d) x.E + szRow (ClF (szX d)) x.C ≤ 4000000 ∧ but.length + 1 + szRow (szX d) x.E + szRow (ClF (szX d)) x.C ≤ 4000000) := ⟨by omega, by omega⟩
  have HAL : Hid (AE.length ≤ ACC.length + szRow (szX d) x.E) := hAEl
  have hfinl : FIN.length ≤ 4000000 := by rw [← hFIN]; have := foldC_len (b := but) x.C AE; omega
  obtain ⟨KK, hKK⟩ : ∃ k, x.K = k := ⟨_, rfl⟩
  obtain ⟨N, hN⟩ : ∃ k, x.N = k := ⟨_, rfl⟩
  obtain ⟨S, hS⟩ : ∃ k, x.S = k := ⟨_, rfl⟩
  obtain ⟨ES, hES⟩ : ∃ l, x.E = l := ⟨_, rfl⟩
  obtain ⟨CS, hCS⟩ : ∃ l, x.C = l := ⟨_, rfl⟩
  rw [hES] at HEL HAE HBD HAL HZ m1
  rw [hCS] at HCL HFIN HBD HZ m2
  rw [hKK, hN, hS, hES, hCS]
  rw [hKK, hS] at hACC
  have hSz : S.size ≤ 1048576 := by rw [← hS]; omega
  obtain ⟨lE, hlE⟩ : ∃ l, ES.length = l := ⟨_, rfl⟩
  obtain ⟨lC, hlC⟩ : ∃ l, CS.length = l := ⟨_, rfl⟩
  have HLE : Hid (ES.length = lE) := hlE
  have HLC : Hid (CS.length = lC) := hlC
  have hlE1 : lE ≤ 1048576 := by have := HZ.out; omega
  have hlC1 : lC ≤ 1048576 := by have := HZ.out; omega
  obtain ⟨bn, hbn⟩ : ∃ l, but.length = l := ⟨_, rfl⟩
  have HBN : Hid (but.length = bn) := hbn
  have hbn1 : bn ≤ 4000000 := by omega
  obtain ⟨on, hon⟩ : ∃ l, out.length = l := ⟨_, rfl⟩
  have HON : Hid (out.length = on) := hon
  have hon1 : on + 1 ≤ 4000000 := by omega
  rw [hlE, hlC, hbn, hon]
  obtain ⟨B0, hB0⟩ : ∃ B, B = w.alloc (.cells #[.int .i64 KK, .int .i64 N, .string S, .slice a3 lE c3, .slice a4 lC c4] 27) := ⟨_, rfl⟩
  have hb0 : Below w.heap.size w B0 := by rw [hB0]; exact (Below.refl _ _).alloc (Nat.le_refl _) _
  have hbx0 : B0.heap[w.heap.size]? = some (.cells #[.int .i64 KK, .int .i64 N, .string S, .slice a3 lE c3, .slice a4 lC c4] 27 (0, 0)) := by rw [hB0]; exact heap_alloc_new w _
  have hB0z : B0.heap.size = w.heap.size + 1 := by rw [hB0]; simp
  have hogl := hO.lt
  have hbgl := hBt.lt
  have HS0 : Hid (Stays B0 B0 w.heap.size og og #[.int .i64 KK, .int .i64 N, .string S, .slice a3 lE c3, .slice a4 lC c4] bg bc but fp) := ⟨Grew.refl _ _, hbx0, hBt.kept (hb0.block _ hbgl), fun _ _ => rfl, by omega, hob, hof⟩
  have HR0 : Hid (RowAt B0 og oc out) := hO.kept (hb0.block _ hogl)
  have HW : Hid ((∀ V : World, (∀ k ∈ fp, V.heap[k]? = B0.heap[k]?) → ∀ k ∈ fp, V.heap[k]? = w.heap[k]?) ∧ ∀ k ∈ fp, k < B0.heap.size) := ⟨fun V hV k hk => (hV k hk).trans (hb0.block k (hlt k hk)), fun k hk => by have := hlt k hk; omega⟩
  have HGB : Hid (Grew w B0 og og) := ⟨⟨hb0.os, hb0.tape, hb0.output, hb0.size, fun k hk _ => hb0.block k hk⟩, .inl rfl⟩
  have HI : Hid (FrC d) := H
  obtain ⟨s0, hs0, hs1, hs2, hs3⟩ := info_parts Try.infoStr
  have HB0 : Hid (B0 = _) := hB0
  have cK : B0.cell? ⟨w.heap.size, 0, none⟩ = some (.int .i64 KK) := by rw [cell_of_row B0 _ 0 _ _ _ hbx0]; rfl
  have cS : B0.cell? ⟨w.heap.size, 2, none⟩ = some (.string S) := by rw [cell_of_row B0 _ 2 _ _ _ hbx0]; rfl
  have hHb := l4Has_any but S (some ⟨bg, 0, none⟩) bn bc B0 (by omega) (by omega) (HS0.out.row.tells)
  have hHo := l4Has_any out S (some ⟨og, 0, none⟩) on oc B0 (by omega) (by omega) (HR0.out.tells)
  rw [List.take_of_length_le (by omega)] at hHb hHo
  clear o1 o2 hz hz1 hszd hlt hO hBt hof hob hn1 hn2 H hfp hAE hFIN hfin hAEl hKK hN hS hES hCS hlE hlC hbn hon hb0 hbx0 hB0z hogl hbgl m1 m2
  by_cases hK : KK = 3
  · subst hK
    have HRX : Hid (RowAt (w.alloc (.cells #[.int .i64 3, .int .i64 N, .string S, .slice a3 lE c3, .slice a4 lC c4] 27)) og oc out) := by rw [← hB0]; exact HR0.out
    rw [hB0] at hHb hHo cK cS
    clear hB0
    go_enter Try.func37, Try.ntmps37
    go_wp2_with fail
    refine hHb.mono ?_
    clear hHb
    rintro _ w' ⟨b, rfl, hb, rfl⟩
    cases b with
    | true =>
      have hin := hb.out.1 rfl
      clear hb hHo HRX
      have hA : ACC = out := by rw [← hACC]; exact tellX_no fun e => e.2.1 hin
      have HR1 : Hid (on = ((ES.take 0).foldl (fun o x => freeX d but o x) ACC).length ∧ RowAt B0 og oc ((ES.take 0).foldl (fun o x => freeX d but o x) ACC)) := by
        rw [List.take_zero, List.foldl_nil, hA]
        exact ⟨HON.out.symm, HR0.out⟩
      have HS1 : Hid (Stays B0 B0 w.heap.size og og #[.int .i64 3, .int .i64 N, .string S, .slice a3 lE c3, .slice a4 lC c4] bg bc but fp) := HS0.out
      clear HR0 HS0 hA hACC HON
      go_wp2_with fail
      rw [← HB0.out]
      clear cK cS hin
      obtain ⟨g1, hg1⟩ : ∃ g, g = og := ⟨_, rfl⟩
      obtain ⟨n1, hn1⟩ : ∃ n, n = on := ⟨_, rfl⟩
      obtain ⟨c1, hc1⟩ : ∃ c, c = oc := ⟨_, rfl⟩
      go_loopw [0, 7] (fun v i wx => ∃ (j g n c : Nat), j ≤ lE ∧ i = .int .i64 j ∧ v = .slice (some ⟨g, 0, none⟩) n c ∧ Hid (n = ((ES.take j).foldl (fun o x => freeX d but o x) ACC).length ∧ RowAt wx g c ((ES.take j).foldl (fun o x => freeX d but o x) ACC) ∧ Stays B0 wx w.heap.size og g #[.int .i64 3, .int .i64 N, .string S, .slice a3 lE c3, .slice a4 lC c4] bg bc but fp)) (fun _ i _ => lE - (intOf i).toNat)
      case atStart => exact ⟨0, og, on, oc, Nat.zero_le _, rfl, rfl, HR1.out.1, HR1.out.2, HS1.out⟩
      case round =>
        clear HR1 HS1
        rename World => wx
        obtain ⟨j, g, n, c, hj, rfl, rfl, HJ⟩ := hrel
        have hbx := HJ.out.2.2.box
        have b3 : wx.cell? ⟨w.heap.size, 3, none⟩ = some (.slice a3 lE c3) := by rw [cell_of_row wx _ 3 _ _ _ hbx]; rfl
        by_cases hjl : j < lE
        · obtain ⟨e, he⟩ : ∃ e, ES[j]? = some e := ⟨_, List.getElem?_eq_getElem (by rw [HLE.out]; exact hjl)⟩
          obtain ⟨b, vs, f, ha3, hbm, ⟨y0, y1, y2, ya3, yl3, yc3, ya4, yl4, yc4, rfl⟩, hcl, hex, hsub⟩ := HEL.out j e he
          rw [ha3] at b3
          clear ha3
          have hwb := HW.out.1 wx HJ.out.2.2.blk
          have f0 : wx.cell? ⟨b, j * 5, none⟩ = some (.int .i64 y0) := hcl wx (hwb b hbm) 0 _ rfl
          have f1 : wx.cell? ⟨b, j * 5 + 1, none⟩ = some (.int .i64 y1) := hcl wx (hwb b hbm) 1 _ rfl
          have f2 : wx.cell? ⟨b, j * 5 + 2, none⟩ = some (.string y2) := hcl wx (hwb b hbm) 2 _ rfl
          have f3 : wx.cell? ⟨b, j * 5 + 3, none⟩ = some (.slice ya3 yl3 yc3) := hcl wx (hwb b hbm) 3 _ rfl
          have f4 : wx.cell? ⟨b, j * 5 + 4, none⟩ = some (.slice ya4 yl4 yc4) := hcl wx (hwb b hbm) 4 _ rfl
          have hst := szRow_take (f := szX d) he
          have hfl := foldE_len (b := but) (ES.take j) ACC
          have hC := HI.out _ e f wx g c _ bg bc but (ExO.lasts d _ _ _ _ _ hex fun k hk => hwb k (hsub k hk)) (fun k hk => Nat.lt_of_lt_of_le (HW.out.2 k (hsub k hk)) HJ.out.2.2.grew.grown.size) (by have := HZ.out; omega) HJ.out.2.1 HJ.out.2.2.row (fun hm => HJ.out.2.2.far.2.2 (hsub g hm)) HJ.out.2.2.far.2.1 (by have := HZ.out; have := HBD.out; omega) (by have := HZ.out; have := HBD.out; omega)
          rw [← HJ.out.1, HBN.out] at hC
          have hjl' : (j : Int) < (lE : Int) := by omega
          have HNX : Hid (∀ g' n' c' w', n' = (freeX d but ((ES.take j).foldl (fun o x => freeX d but o x) ACC) e).length ∧ RowAt w' g' c' (freeX d but ((ES.take j).foldl (fun o x => freeX d but o x) ACC) e) ∧ Grew wx w' g g' → n' = ((ES.take (j + 1)).foldl (fun o x => freeX d but o x) ACC).length ∧ RowAt w' g' c' ((ES.take (j + 1)).foldl (fun o x => freeX d but o x) ACC) ∧ Stays B0 w' w.heap.size og g' #[.int .i64 3, .int .i64 N, .string S, .slice a3 lE c3, .slice a4 lC c4] bg bc but fp) := fun g' n' c' w' hq => by
            rw [foldE_next he]
            exact ⟨hq.1, hq.2.1, HJ.out.2.2.on hq.2.2 HW.out.2⟩
          clear hcl hex hsub he hwb hst hfl hbx hbm
          go_wp2_with fail
          refine hC.mono ?_
          clear hC f0 f1 f2 f3 f4 b3 HJ
          rintro _ w' ⟨g', n', c', rfl, HQ⟩
          have HN2 : Hid _ := HNX.out g' n' c' w' HQ.out
          clear HQ HNX
          go_wp2_with fail
          go_roundw
          case rel => exact ⟨j + 1, g', n', c', by omega, by go_num, rfl, HN2.out⟩
          case measure => simp [intOf]; omega
        · obtain rfl : j = lE := by omega
          have hjl' : decide ((j : Int) < (j : Int)) = false := by simp
          have HJ2 : Hid (n = AE.length ∧ RowAt wx g c AE ∧ Stays B0 wx w.heap.size og g #[.int .i64 3, .int .i64 N, .string S, .slice a3 j c3, .slice a4 lC c4] bg bc but fp) := by
            have hq := HJ.out
            rw [← HLE.out, List.take_length, HAE.out] at hq
            rw [← HLE.out]
            exact hq
          clear HJ hbx HEL
          go_wp2_with fail
          clear b3 hjl hjl'
          rename World => wz
          go_loopw [0, 8] (fun v i wx => ∃ (i' g n c : Nat), i' ≤ lC ∧ i = .int .i64 i' ∧ v = .slice (some ⟨g, 0, none⟩) n c ∧ Hid (n = ((CS.take i').foldl (fun o c => freeX d (but ++ vars d c.1) o c.2) AE).length ∧ RowAt wx g c ((CS.take i').foldl (fun o c => freeX d (but ++ vars d c.1) o c.2) AE) ∧ Stays B0 wx w.heap.size og g #[.int .i64 3, .int .i64 N, .string S, .slice a3 j c3, .slice a4 lC c4] bg bc but fp)) (fun _ i _ => lC - (intOf i).toNat)
          case atStart => exact ⟨0, g, n, c, Nat.zero_le _, rfl, rfl, HJ2.out⟩
          case round =>
            clear HJ2
            rename World => wx
            obtain ⟨i, g, n, c, hi, rfl, rfl, HJ⟩ := hrel
            have hbx := HJ.out.2.2.box
            have b4 : wx.cell? ⟨w.heap.size, 4, none⟩ = some (.slice a4 lC c4) := by rw [cell_of_row wx _ 4 _ _ _ hbx]; rfl
            by_cases hil : i < lC
            · obtain ⟨⟨P, X⟩, he⟩ : ∃ e, CS[i]? = some e := ⟨_, List.getElem?_eq_getElem (by rw [HLC.out]; exact hil)⟩
              obtain ⟨cg, ps, us, fP, fX, ha4, hbm, ⟨y0, y1, y2, ya3, yl3, yc3, ya4, yl4, yc4, rfl⟩, ⟨x0, x1, x2, xa3, xl3, xc3, xa4, xl4, xc4, rfl⟩, hcl, hcl2, hexP, hexX, hsub⟩ := HCL.out i _ he
              rw [ha4] at b4
              clear ha4
              have hwb := HW.out.1 wx HJ.out.2.2.blk
              have f0 : wx.cell? ⟨cg, i * 10, none⟩ = some (.int .i64 y0) := hcl wx (hwb cg hbm) 0 _ rfl
              have f1 : wx.cell? ⟨cg, i * 10 + 1, none⟩ = some (.int .i64 y1) := hcl wx (hwb cg hbm) 1 _ rfl
              have f2 : wx.cell? ⟨cg, i * 10 + 2, none⟩ = some (.string y2) := hcl wx (hwb cg hbm) 2 _ rfl
              have f3 : wx.cell? ⟨cg, i * 10 + 3, none⟩ = some (.slice ya3 yl3 yc3) := hcl wx (hwb cg hbm) 3 _ rfl
              have f4 : wx.cell? ⟨cg, i * 10 + 4, none⟩ = some (.slice ya4 yl4 yc4) := hcl wx (hwb cg hbm) 4 _ rfl
              have k0 : wx.cell? ⟨cg, i * 10 + 5, none⟩ = some (.int .i64 x0) := hcl2 wx (hwb cg hbm) 0 _ rfl
              have k1 : wx.cell? ⟨cg, i * 10 + 5 + 1, none⟩ = some (.int .i64 x1) := hcl2 wx (hwb cg hbm) 1 _ rfl
              have k2 : wx.cell? ⟨cg, i * 10 + 5 + 2, none⟩ = some (.string x2) := hcl2 wx (hwb cg hbm) 2 _ rfl
              have k3 : wx.cell? ⟨cg, i * 10 + 5 + 3, none⟩ = some (.slice xa3 xl3 xc3) := hcl2 wx (hwb cg hbm) 3 _ rfl
              have k4 : wx.cell? ⟨cg, i * 10 + 5 + 4, none⟩ = some (.slice xa4 xl4 xc4) := hcl2 wx (hwb cg hbm) 4 _ rfl
              have hst := szRow_take (f := ClF (szX d)) he
              have hcf : ClF (szX d) (P, X) = szX d P + szX d X := rfl
              have hfl := foldC_len (b := but) (CS.take i) AE
              have hvl := vars_len d P
              have HVS : Hid (∀ V, Below wx.heap.size wx V → _) := fun V hV => specVars_any d _ P V (ExR.lasts d _ _ _ _ (ExO.reads d _ _ _ _ (ExO.lasts d _ _ _ _ _ hexP fun k hk => hwb k (hsub k (List.mem_append_left _ hk)))) hV) (by have := HZ.out; omega)
              obtain ⟨VP, hVP⟩ : ∃ l, vars d P = l := ⟨_, rfl⟩
              have HVP : Hid (vars d P = VP) := hVP
              rw [hVP] at HVS hvl
              have hvl' : VP.length ≤ 1048577 := by have := HZ.out; omega
              have HST : Hid (Stays B0 wx w.heap.size og g #[.int .i64 3, .int .i64 N, .string S, .slice a3 j c3, .slice a4 lC c4] bg bc but fp) := HJ.out.2.2
              have HCX : Hid (∀ V : World, Below wx.heap.size wx V → ∀ ig ic, RowAt V ig ic (but ++ VP) → wx.heap.size ≤ ig → Calls Try.prog 37 #[.slice (some ⟨g, 0, none⟩) n c, .slice (some ⟨ig, 0, none⟩) (but ++ VP).length ic, .agg #[.int .i64 x0, .int .i64 x1, .string x2, .slice xa3 xl3 xc3, .slice xa4 xl4 xc4]] V fun e w' => ∃ g' n' c', e = .returned (.slice (some ⟨g', 0, none⟩) n' c') ∧ Hid (n' = ((CS.take (i + 1)).foldl (fun o c => freeX d (but ++ vars d c.1) o c.2) AE).length ∧ RowAt w' g' c' ((CS.take (i + 1)).foldl (fun o c => freeX d (but ++ vars d c.1) o c.2) AE) ∧ Stays B0 w' w.heap.size og g' #[.int .i64 3, .int .i64 N, .string S, .slice a3 j c3, .slice a4 lC c4] bg bc but fp)) := fun V hV ig ic hrow hig => by
                have hgl := HJ.out.2.1.lt
                have hC := HI.out _ X fX V g c _ ig ic (but ++ VP) (ExO.lasts d _ _ _ _ _ hexX fun k hk => (hV.block k (Nat.lt_of_lt_of_le (HW.out.2 k (hsub k (List.mem_append_right _ hk))) HJ.out.2.2.grew.grown.size)).trans (hwb k (hsub k (List.mem_append_right _ hk)))) (fun k hk => Nat.lt_of_lt_of_le (HW.out.2 k (hsub k (List.mem_append_right _ hk))) (Nat.le_trans HJ.out.2.2.grew.grown.size hV.size)) (by have := HZ.out; omega) (HJ.out.2.1.kept (hV.block g hgl)) hrow (fun hm => HJ.out.2.2.far.2.2 (hsub g (List.mem_append_right _ hm))) (by omega) (by have := HZ.out; have := HBD.out; have := HAL.out; omega) (by rw [List.length_append]; have := HZ.out; have := HBD.out; have := HBN.out; omega)
                rw [← HJ.out.1] at hC
                refine hC.mono ?_
                rintro e w' ⟨g', n', c', rfl, HQ⟩
                refine ⟨g', n', c', rfl, ?_⟩
                rw [foldC_next he]
                simp only [HVP.out]
                exact ⟨HQ.out.1, HQ.out.2.1, (HJ.out.2.2.later hV HW.out.2).on HQ.out.2.2 HW.out.2⟩
              have hil' : (i : Int) < (lC : Int) := by omega
              clear hcl hcl2 hexP hexX hsub he hwb hst hfl hbm hcf hvl HJ
              go_wp2_with fail
              go_cut [9] (fun v wy => ∃ ig n9 c9 : Nat, v = .slice (some ⟨ig, 0, none⟩) n9 c9 ∧ Hid (n9 = (but ++ VP).length ∧ RowAt wy ig c9 (but ++ VP) ∧ Below wx.heap.size wx wy ∧ wx.heap.size ≤ ig))
              case first =>
                refine wp_region_held (S := fun X => Below wx.heap.size wx X) (by kernel_rfl) ?_
                change wpAnyH _ _ _ _ _ _ _ _ (World.drew _)
                have hS0 : Below wx.heap.size wx (World.drew wx) := (Below.refl _ _).drew
                generalize hA0 : (Act.mk _ _) = A0
                have z0 : A0.tmps.size = 75 := by rw [← hA0]; rfl
                have e5_0 : A0.eval (.tmp 5) = (.pointer (some ⟨w.heap.size, 0, none⟩)) := by rw [← hA0]; rfl
                have e1_0 : A0.eval (.tmp 1) = (.slice (some ⟨bg, 0, none⟩) bn bc) := by rw [← hA0]; rfl
                have e8_0 : A0.eval (.tmp 8) = (.int .i64 i) := by rw [← hA0]; rfl
                refine wpAnyH_take (i := 1) (v := (.slice (some ⟨bg, 0, none⟩) bn bc)) rfl (by kernel_rfl) (by kernel_rfl) (by kernel_rfl) (fun _ _ _ h => h) (Or.inl ⟨rfl, fun X hX => ?_⟩) hS0 ?_
                · rw [BigFrame.run_move (.tmp 1) rfl X, e1_0]
                change wpAnyH _ _ _ _ _ _ _ (Act.put A0 (some 55) ((.slice (some ⟨bg, 0, none⟩) bn bc))) _
                generalize hA1 : Act.put A0 (some 55) ((.slice (some ⟨bg, 0, none⟩) bn bc)) = A1
                have z1 : A1.tmps.size = 75 := by rw [← hA1, put_size]; exact z0
                have e5_1 : A1.eval (.tmp 5) = (.pointer (some ⟨w.heap.size, 0, none⟩)) := by rw [← hA1, put_ne (by decide)]; exact e5_0
                have e8_1 : A1.eval (.tmp 8) = (.int .i64 i) := by rw [← hA1, put_ne (by decide)]; exact e8_0
                have e55_1 : A1.eval (.tmp 55) = (.slice (some ⟨bg, 0, none⟩) bn bc) := by rw [← hA1]; exact put_same (by rw [z0]; decide)
                clear e5_0 e1_0 e8_0 z0
                refine wpAnyH_take (i := 3) (v := (.pointer (some ⟨w.heap.size, 4, none⟩))) rfl (by kernel_rfl) (by kernel_rfl) (by kernel_rfl) (fun _ _ _ h => h) (Or.inl ⟨rfl, fun X hX => ?_⟩) hS0 ?_
                · exact run_fieldAddr (Try.fieldX4 _ _) rfl e5_1 X
                change wpAnyH _ _ _ _ _ _ _ (Act.put A1 (some 57) ((.pointer (some ⟨w.heap.size, 4, none⟩)))) _
                generalize hA2 : Act.put A1 (some 57) ((.pointer (some ⟨w.heap.size, 4, none⟩))) = A2
                have z2 : A2.tmps.size = 75 := by rw [← hA2, put_size]; exact z1
                have e8_2 : A2.eval (.tmp 8) = (.int .i64 i) := by rw [← hA2, put_ne (by decide)]; exact e8_1
                have e55_2 : A2.eval (.tmp 55) = (.slice (some ⟨bg, 0, none⟩) bn bc) := by rw [← hA2, put_ne (by decide)]; exact e55_1
                have e57_2 : A2.eval (.tmp 57) = (.pointer (some ⟨w.heap.size, 4, none⟩)) := by rw [← hA2]; exact put_same (by rw [z1]; decide)
                clear e5_1 e8_1 e55_1 z1
                refine wpAnyH_take (i := 4) (v := (.slice (some ⟨cg, 0, none⟩) lC c4)) rfl (by kernel_rfl) (by kernel_rfl) (by kernel_rfl) (fun _ _ _ h => h) (Or.inl ⟨rfl, fun X hX => ?_⟩) hS0 ?_
                · exact run_load (Try.load4 _ _ _ _ _ (cell_later hX b4)) rfl e57_2
                change wpAnyH _ _ _ _ _ _ _ (Act.put A2 (some 58) ((.slice (some ⟨cg, 0, none⟩) lC c4))) _
                generalize hA3 : Act.put A2 (some 58) ((.slice (some ⟨cg, 0, none⟩) lC c4)) = A3
                have z3 : A3.tmps.size = 75 := by rw [← hA3, put_size]; exact z2
                have e8_3 : A3.eval (.tmp 8) = (.int .i64 i) := by rw [← hA3, put_ne (by decide)]; exact e8_2
                have e55_3 : A3.eval (.tmp 55) = (.slice (some ⟨bg, 0, none⟩) bn bc) := by rw [← hA3, put_ne (by decide)]; exact e55_2
                have e58_3 : A3.eval (.tmp 58) = (.slice (some ⟨cg, 0, none⟩) lC c4) := by rw [← hA3]; exact put_same (by rw [z2]; decide)
                clear e8_2 e55_2 e57_2 z2
                refine wpAnyH_take (i := 5) (v := (.int .i64 i)) rfl (by kernel_rfl) (by kernel_rfl) (by kernel_rfl) (fun _ _ _ h => h) (Or.inl ⟨rfl, fun X hX => ?_⟩) hS0 ?_
                · rw [BigFrame.run_move (.tmp 8) rfl X, e8_3]
                change wpAnyH _ _ _ _ _ _ _ (Act.put A3 (some 59) ((.int .i64 i))) _
                generalize hA4 : Act.put A3 (some 59) ((.int .i64 i)) = A4
                have z4 : A4.tmps.size = 75 := by rw [← hA4, put_size]; exact z3
                have e55_4 : A4.eval (.tmp 55) = (.slice (some ⟨bg, 0, none⟩) bn bc) := by rw [← hA4, put_ne (by decide)]; exact e55_3
                have e58_4 : A4.eval (.tmp 58) = (.slice (some ⟨cg, 0, none⟩) lC c4) := by rw [← hA4, put_ne (by decide)]; exact e58_3
                have e59_4 : A4.eval (.tmp 59) = (.int .i64 i) := by rw [← hA4]; exact put_same (by rw [z3]; decide)
                clear e8_3 e55_3 e58_3 z3
                refine wpAnyH_take (i := 6) (v := (.pointer (some ⟨cg, i * 10, none⟩))) rfl (by kernel_rfl) (by kernel_rfl) (by kernel_rfl) (fun _ _ _ h => h) (Or.inl ⟨rfl, fun X hX => ?_⟩) hS0 ?_
                · exact run_index (Try.indexC _ _ _ _ hil) rfl e58_4 e59_4 X
                change wpAnyH _ _ _ _ _ _ _ (Act.put A4 (some 60) ((.pointer (some ⟨cg, i * 10, none⟩)))) _
                generalize hA5 : Act.put A4 (some 60) ((.pointer (some ⟨cg, i * 10, none⟩))) = A5
                have z5 : A5.tmps.size = 75 := by rw [← hA5, put_size]; exact z4
                have e55_5 : A5.eval (.tmp 55) = (.slice (some ⟨bg, 0, none⟩) bn bc) := by rw [← hA5, put_ne (by decide)]; exact e55_4
                have e60_5 : A5.eval (.tmp 60) = (.pointer (some ⟨cg, i * 10, none⟩)) := by rw [← hA5]; exact put_same (by rw [z4]; decide)
                clear e55_4 e58_4 e59_4 z4
                refine wpAnyH_take (i := 7) (v := (.pointer (some ⟨cg, i * 10, none⟩))) rfl (by kernel_rfl) (by kernel_rfl) (by kernel_rfl) (fun _ _ _ h => h) (Or.inl ⟨rfl, fun X hX => ?_⟩) hS0 ?_
                · exact run_fieldAddr (Try.fieldP' _ _) rfl e60_5 X
                change wpAnyH _ _ _ _ _ _ _ (Act.put A5 (some 61) ((.pointer (some ⟨cg, i * 10, none⟩)))) _
                generalize hA6 : Act.put A5 (some 61) ((.pointer (some ⟨cg, i * 10, none⟩))) = A6
                have z6 : A6.tmps.size = 75 := by rw [← hA6, put_size]; exact z5
                have e55_6 : A6.eval (.tmp 55) = (.slice (some ⟨bg, 0, none⟩) bn bc) := by rw [← hA6, put_ne (by decide)]; exact e55_5
                have e61_6 : A6.eval (.tmp 61) = (.pointer (some ⟨cg, i * 10, none⟩)) := by rw [← hA6]; exact put_same (by rw [z5]; decide)
                clear e55_5 e60_5 z5
                refine wpAnyH_take (i := 8) (v := (.agg #[.int .i64 y0, .int .i64 y1, .string y2, .slice ya3 yl3 yc3, .slice ya4 yl4 yc4])) rfl (by kernel_rfl) (by kernel_rfl) (by kernel_rfl) (fun _ _ _ h => h) (Or.inl ⟨rfl, fun X hX => ?_⟩) hS0 ?_
                · exact run_load (Try.loadX _ _ _ _ _ _ _ _ _ _ _ _ (cell_later hX f0) (cell_later hX f1) (cell_later hX f2) (cell_later hX f3) (cell_later hX f4)) rfl e61_6
                change wpAnyH _ _ _ _ _ _ _ (Act.put A6 (some 62) ((.agg #[.int .i64 y0, .int .i64 y1, .string y2, .slice ya3 yl3 yc3, .slice ya4 yl4 yc4]))) _
                generalize hA7 : Act.put A6 (some 62) ((.agg #[.int .i64 y0, .int .i64 y1, .string y2, .slice ya3 yl3 yc3, .slice ya4 yl4 yc4])) = A7
                have z7 : A7.tmps.size = 75 := by rw [← hA7, put_size]; exact z6
                have e55_7 : A7.eval (.tmp 55) = (.slice (some ⟨bg, 0, none⟩) bn bc) := by rw [← hA7, put_ne (by decide)]; exact e55_6
                have e62_7 : A7.eval (.tmp 62) = (.agg #[.int .i64 y0, .int .i64 y1, .string y2, .slice ya3 yl3 yc3, .slice ya4 yl4 yc4]) := by rw [← hA7]; exact put_same (by rw [z6]; decide)
                clear e55_6 e61_6 z6
                refine wpAnyH_all (rs := [0]) (by kernel_rfl) (by simp) (fun i hi => ?_)
                obtain rfl := List.mem_singleton.1 hi
                refine wpOp_step rfl (fun K hK => ?_)
                have hS1 : Below wx.heap.size wx ((World.drew wx).alloc (.cells #[] 9)) := (Below.refl _ _).drew.alloc (Nat.le_refl _) _
                refine step_val rfl (run_buildNone (Try.buildNone _) rfl) (hK _ _ ⟨hS1, ?_⟩)
                clear hK K
                change wpAnyH _ _ _ _ _ _ _ (Act.put A7 (some 54) ((.slice (some ⟨wx.heap.size, 0, none⟩) 0 0))) _
                generalize hA8 : Act.put A7 (some 54) ((.slice (some ⟨wx.heap.size, 0, none⟩) 0 0)) = A8
                have z8 : A8.tmps.size = 75 := by rw [← hA8, put_size]; exact z7
                have e55_8 : A8.eval (.tmp 55) = (.slice (some ⟨bg, 0, none⟩) bn bc) := by rw [← hA8, put_ne (by decide)]; exact e55_7
                have e62_8 : A8.eval (.tmp 62) = (.agg #[.int .i64 y0, .int .i64 y1, .string y2, .slice ya3 yl3 yc3, .slice ya4 yl4 yc4]) := by rw [← hA8, put_ne (by decide)]; exact e62_7
                have e54_8 : A8.eval (.tmp 54) = (.slice (some ⟨wx.heap.size, 0, none⟩) 0 0) := by rw [← hA8]; exact put_same (by rw [z7]; decide)
                clear e55_7 e62_7 z7
                refine wpAnyH_all (rs := [2]) (by kernel_rfl) (by simp) (fun i hi => ?_)
                obtain rfl := List.mem_singleton.1 hi
                refine wpOp_step rfl (fun K hK => ?_)
                have hn0 : ((World.drew wx).alloc (.cells #[] 9)).ownsRow wx.heap.size 9 1 (.slice (some ⟨wx.heap.size, 0, none⟩) 0 0) 0 [] := ⟨rfl, .inr ⟨wx.heap.size, 0, #[], rfl, Nat.le_refl _, heap_alloc_new (World.drew wx) _, Nat.le_refl _, Nat.zero_le _, rfl, rfl⟩⟩
                have hbr := (HST.out.row.kept (hS1.block _ HST.out.row.lt)).cells
                refine step_append_own' rfl (.tmp 54) (.tmp 55) 29 rfl wx.heap.size 9 s0 (.string ⟨#[]⟩) 1 16 Try.underlying29 hs0 hs1 hs2 hs3 rfl (by decide) _ 0 [] e54_8 hn0 ⟨bg, 0, none⟩ bn bc (but.map Value.string) e55_8 (by rw [List.length_map, Nat.mul_one]; exact HBN.out) hbr (by intro u hu; obtain ⟨s, _, rfl⟩ := List.mem_map.1 hu; rfl) (by unfold maxLen; omega) (by omega) hS1.size ?_
                intro v1 X1 hown1 hgrow1 hnil1 hat1
                have hX1 : Below wx.heap.size wx X1 := hS1.trans ⟨hgrow1.os, hgrow1.tape, hgrow1.output, hgrow1.size, fun k hk => hgrow1.block k (Nat.lt_of_lt_of_le hk hS1.size) (by simp [Value.ownBlock]; omega)⟩
                obtain ⟨g1, c1, rfl, hg1⟩ := row_some hown1 (fun e => by have := hnil1.1 e; cases this.1)
                refine hK _ _ ⟨hX1, ?_⟩
                clear hK K hn0 hbr hgrow1 hnil1 hat1
                change wpAnyH _ _ _ _ _ _ _ (Act.put A8 (some 56) ((.slice (some ⟨g1, 0, none⟩) (0 + bn) c1))) _
                generalize hA9 : Act.put A8 (some 56) ((.slice (some ⟨g1, 0, none⟩) (0 + bn) c1)) = A9
                have z9 : A9.tmps.size = 75 := by rw [← hA9, put_size]; exact z8
                have e62_9 : A9.eval (.tmp 62) = (.agg #[.int .i64 y0, .int .i64 y1, .string y2, .slice ya3 yl3 yc3, .slice ya4 yl4 yc4]) := by rw [← hA9, put_ne (by decide)]; exact e62_8
                have e56_9 : A9.eval (.tmp 56) = (.slice (some ⟨g1, 0, none⟩) (0 + bn) c1) := by rw [← hA9]; exact put_same (by rw [z8]; decide)
                clear e55_8 e62_8 e54_8 z8
                refine wpAnyH_all (rs := [9]) (by kernel_rfl) (by simp) (fun i hi => ?_)
                obtain rfl := List.mem_singleton.1 hi
                refine wpOp_step rfl (fun K hK => ?_)
                refine step_call rfl Try.enterVars rfl #[(.agg #[.int .i64 y0, .int .i64 y1, .string y2, .slice ya3 yl3 yc3, .slice ya4 yl4 yc4])] (by simp only [List.map_toArray, List.map_cons, List.map_nil]; rw [e62_9]) ?_
                refine (HVS.out X1 hX1).mono ?_
                rintro e X2 ⟨g2, n2, c2, rfl, HR2, hb2⟩
                have hX2 : Below wx.heap.size wx X2 := hX1.trans (hb2.mono hX1.size)
                refine ⟨_, rfl, hK _ _ ⟨hX2, ?_⟩⟩
                clear hK K
                change wpAnyH _ _ _ _ _ _ _ (Act.put A9 (some 63) ((.slice (some ⟨g2, 0, none⟩) n2 c2))) _
                generalize hA10 : Act.put A9 (some 63) ((.slice (some ⟨g2, 0, none⟩) n2 c2)) = A10
                have z10 : A10.tmps.size = 75 := by rw [← hA10, put_size]; exact z9
                have e56_10 : A10.eval (.tmp 56) = (.slice (some ⟨g1, 0, none⟩) (0 + bn) c1) := by rw [← hA10, put_ne (by decide)]; exact e56_9
                have e63_10 : A10.eval (.tmp 63) = (.slice (some ⟨g2, 0, none⟩) n2 c2) := by rw [← hA10]; exact put_same (by rw [z9]; decide)
                clear e62_9 e56_9 z9
                refine wpAnyH_all (rs := [10]) (by kernel_rfl) (by simp) (fun i hi => ?_)
                obtain rfl := List.mem_singleton.1 hi
                refine wpOp_step rfl (fun K hK => ?_)
                have hown2 := rowKept hown1 (w' := X2) (fun k hk => hb2.block k (own_blk hown1 k hk).2)
                obtain ⟨hn2, hcl2⟩ := HR2.out.cells
                have hg12 : g1 ≠ g2 := by have := (own_blk hown1 g1 rfl).2; have := (own_blk HR2.out g2 rfl).1; omega
                refine step_append_own' rfl (.tmp 56) (.tmp 63) 29 rfl wx.heap.size 9 s0 (.string ⟨#[]⟩) 1 16 Try.underlying29 hs0 hs1 hs2 hs3 rfl (by decide) _ (0 + bn) _ e56_10 hown2 ⟨g2, 0, none⟩ n2 c2 (VP.map Value.string) e63_10 (by rw [List.length_map, Nat.mul_one]; exact hn2.symm) hcl2 (by intro u hu; obtain ⟨s, _, rfl⟩ := List.mem_map.1 hu; rfl) (by unfold maxLen; omega) (by omega) hX2.size ?_
                intro v3 X3 hown3 hgrow3 hnil3 hat3
                have hX3 : Below wx.heap.size wx X3 := hX2.trans ⟨hgrow3.os, hgrow3.tape, hgrow3.output, hgrow3.size, fun k hk => hgrow3.block k (Nat.lt_of_lt_of_le hk hX2.size) (by simp [Value.ownBlock]; omega)⟩
                obtain ⟨g3, c3', rfl, hg3⟩ := row_some hown3 (fun e => by have := hnil3.1 e; cases this.1)
                have HFI : Hid (0 + bn + n2 = (but ++ VP).length ∧ RowAt X3 g3 c3' (but ++ VP) ∧ Below wx.heap.size wx X3 ∧ wx.heap.size ≤ g3) := by
                  have e1 : 0 + bn + n2 = (but ++ VP).length := by rw [List.length_append, hn2]; have := HBN.out; omega
                  refine ⟨e1, ?_, hX3, hg3⟩
                  have := row_low hown3 (Nat.zero_le _)
                  unfold RowAt
                  rw [← e1, List.map_append]
                  simpa using this
                refine hK _ _ ⟨hX3, ?_⟩
                clear hK K hown1 hown2 hown3 hgrow3 hnil3 hat3 hcl2 HR2
                change wpAnyH _ _ _ _ _ _ _ (Act.put A10 (some 64) ((.slice (some ⟨g3, 0, none⟩) (0 + bn + n2) c3'))) _
                generalize hA11 : Act.put A10 (some 64) ((.slice (some ⟨g3, 0, none⟩) (0 + bn + n2) c3')) = A11
                have z11 : A11.tmps.size = 75 := by rw [← hA11, put_size]; exact z10
                have e64_11 : A11.eval (.tmp 64) = (.slice (some ⟨g3, 0, none⟩) (0 + bn + n2) c3') := by rw [← hA11]; exact put_same (by rw [z10]; decide)
                clear e56_10 e63_10 z10
                refine wpAnyH_take (i := 11) (v := (.slice (some ⟨g3, 0, none⟩) (0 + bn + n2) c3')) rfl (by kernel_rfl) (by kernel_rfl) (by kernel_rfl) (fun _ _ _ h => h) (Or.inl ⟨rfl, fun X hX => ?_⟩) hX3 ?_
                · rw [BigFrame.run_assign (.tmp 64) rfl X, e64_11]
                change wpAnyH _ _ _ _ _ _ _ (Act.put A11 (some 9) _) _
                generalize hA12 : Act.put A11 (some 9) _ = A12
                refine wpAnyH_done (by kernel_rfl) ?_ _
                clear e64_11 z11
                subst hA12 hA11 hA10 hA9 hA8 hA7 hA6 hA5 hA4 hA3 hA2 hA1 hA0
                simp only [Act.put, List.setIfInBounds_toArray, List.set_cons_zero, List.set_cons_succ]
                go_wp2_with fail
                go_meet
                case rel => exact ⟨_, _, _, rfl, HFI⟩

              case rest =>
                obtain ⟨ig, n9, c9, rfl, HV9⟩ := hcut
                obtain ⟨wy, hwy⟩ : ∃ wy, wy = wc := ⟨_, rfl⟩
                rw [← hwy] at HV9 ⊢
                have hB := HV9.out.2.2.1
                have b4' := cell_later hB b4
                have k0' := cell_later hB k0
                have k1' := cell_later hB k1
                have k2' := cell_later hB k2
                have k3' := cell_later hB k3
                have k4' := cell_later hB k4
                have hC := HCX.out wy hB ig c9 HV9.out.2.1 HV9.out.2.2.2
                rw [← HV9.out.1] at hC
                clear HCX HVS HST b4 f0 f1 f2 f3 f4 k0 k1 k2 k3 k4 hwy hbx hB
                go_wp2_with fail
                refine hC.mono ?_
                clear hC b4' k0' k1' k2' k3' k4' HV9
                rintro _ w' ⟨g', n', c', rfl, HQ⟩
                go_wp2_with fail
                go_roundw
                case rel => exact ⟨i + 1, g', n', c', by omega, by go_num, rfl, HQ.out⟩
                case measure => simp [intOf]; omega
            · obtain rfl : i = lC := by omega
              have hil' : decide ((i : Int) < (i : Int)) = false := by simp
              have HX : Hid (∃ g' n' c', (Value.slice (some ⟨g, 0, none⟩) n c) = .slice (some ⟨g', 0, none⟩) n' c' ∧ (n' = FIN.length ∧ RowAt wx g' c' FIN ∧ Grew w wx og g')) := by
                have hq := HJ.out
                rw [← HLC.out, List.take_length, HFIN.out] at hq
                exact ⟨g, n, c, rfl, hq.1, hq.2.1, HGB.out.trans hq.2.2.grew⟩
              clear HJ hbx HCL
              go_wp2_with fail
              go_ret
              obtain ⟨g', n', c', e1, e2⟩ := HX.out
              exact ⟨g, n, c, rfl, by simp only [Value.slice.injEq, Option.some.injEq, Addr.mk.injEq, and_true] at e1; obtain ⟨rfl, rfl, rfl⟩ := e1; exact e2⟩

    | false =>
      have HNB : Hid (¬ S ∈ but) := fun h => by have := hb.out.2 h; cases this
      clear hb
      go_wp2_with fail
      refine hHo.mono ?_
      clear hHo
      rintro _ w' ⟨b, rfl, hb, rfl⟩
      cases b with
      | true =>
        have hin := hb.out.1 rfl
        clear hb HRX HNB
        have hA : ACC = out := by rw [← hACC]; exact tellX_no fun e => e.2.2 hin
        have HR1 : Hid (on = ((ES.take 0).foldl (fun o x => freeX d but o x) ACC).length ∧ RowAt B0 og oc ((ES.take 0).foldl (fun o x => freeX d but o x) ACC)) := by
          rw [List.take_zero, List.foldl_nil, hA]
          exact ⟨HON.out.symm, HR0.out⟩
        have HS1 : Hid (Stays B0 B0 w.heap.size og og #[.int .i64 3, .int .i64 N, .string S, .slice a3 lE c3, .slice a4 lC c4] bg bc but fp) := HS0.out
        clear HR0 HS0 hA hACC HON
        go_wp2_with fail
        rw [← HB0.out]
        clear cK cS hin
        obtain ⟨g1, hg1⟩ : ∃ g, g = og := ⟨_, rfl⟩
        obtain ⟨n1, hn1⟩ : ∃ n, n = on := ⟨_, rfl⟩
        obtain ⟨c1, hc1⟩ : ∃ c, c = oc := ⟨_, rfl⟩
        go_loopw [0, 7] (fun v i wx => ∃ (j g n c : Nat), j ≤ lE ∧ i = .int .i64 j ∧ v = .slice (some ⟨g, 0, none⟩) n c ∧ Hid (n = ((ES.take j).foldl (fun o x => freeX d but o x) ACC).length ∧ RowAt wx g c ((ES.take j).foldl (fun o x => freeX d but o x) ACC) ∧ Stays B0 wx w.heap.size og g #[.int .i64 3, .int .i64 N, .string S, .slice a3 lE c3, .slice a4 lC c4] bg bc but fp)) (fun _ i _ => lE - (intOf i).toNat)
        case atStart => exact ⟨0, og, on, oc, Nat.zero_le _, rfl, rfl, HR1.out.1, HR1.out.2, HS1.out⟩
        case round =>
          clear HR1 HS1
          rename World => wx
          obtain ⟨j, g, n, c, hj, rfl, rfl, HJ⟩ := hrel
          have hbx := HJ.out.2.2.box
          have b3 : wx.cell? ⟨w.heap.size, 3, none⟩ = some (.slice a3 lE c3) := by rw [cell_of_row wx _ 3 _ _ _ hbx]; rfl
          by_cases hjl : j < lE
          · obtain ⟨e, he⟩ : ∃ e, ES[j]? = some e := ⟨_, List.getElem?_eq_getElem (by rw [HLE.out]; exact hjl)⟩
            obtain ⟨b, vs, f, ha3, hbm, ⟨y0, y1, y2, ya3, yl3, yc3, ya4, yl4, yc4, rfl⟩, hcl, hex, hsub⟩ := HEL.out j e he
            rw [ha3] at b3
            clear ha3
            have hwb := HW.out.1 wx HJ.out.2.2.blk
            have f0 : wx.cell? ⟨b, j * 5, none⟩ = some (.int .i64 y0) := hcl wx (hwb b hbm) 0 _ rfl
            have f1 : wx.cell? ⟨b, j * 5 + 1, none⟩ = some (.int .i64 y1) := hcl wx (hwb b hbm) 1 _ rfl
            have f2 : wx.cell? ⟨b, j * 5 + 2, none⟩ = some (.string y2) := hcl wx (hwb b hbm) 2 _ rfl
            have f3 : wx.cell? ⟨b, j * 5 + 3, none⟩ = some (.slice ya3 yl3 yc3) := hcl wx (hwb b hbm) 3 _ rfl
            have f4 : wx.cell? ⟨b, j * 5 + 4, none⟩ = some (.slice ya4 yl4 yc4) := hcl wx (hwb b hbm) 4 _ rfl
            have hst := szRow_take (f := szX d) he
            have hfl := foldE_len (b := but) (ES.take j) ACC
            have hC := HI.out _ e f wx g c _ bg bc but (ExO.lasts d _ _ _ _ _ hex fun k hk => hwb k (hsub k hk)) (fun k hk => Nat.lt_of_lt_of_le (HW.out.2 k (hsub k hk)) HJ.out.2.2.grew.grown.size) (by have := HZ.out; omega) HJ.out.2.1 HJ.out.2.2.row (fun hm => HJ.out.2.2.far.2.2 (hsub g hm)) HJ.out.2.2.far.2.1 (by have := HZ.out; have := HBD.out; omega) (by have := HZ.out; have := HBD.out; omega)
            rw [← HJ.out.1, HBN.out] at hC
            have hjl' : (j : Int) < (lE : Int) := by omega
            have HNX : Hid (∀ g' n' c' w', n' = (freeX d but ((ES.take j).foldl (fun o x => freeX d but o x) ACC) e).length ∧ RowAt w' g' c' (freeX d but ((ES.take j).foldl (fun o x => freeX d but o x) ACC) e) ∧ Grew wx w' g g' → n' = ((ES.take (j + 1)).foldl (fun o x => freeX d but o x) ACC).length ∧ RowAt w' g' c' ((ES.take (j + 1)).foldl (fun o x => freeX d but o x) ACC) ∧ Stays B0 w' w.heap.size og g' #[.int .i64 3, .int .i64 N, .string S, .slice a3 lE c3, .slice a4 lC c4] bg bc but fp) := fun g' n' c' w' hq => by
              rw [foldE_next he]
              exact ⟨hq.1, hq.2.1, HJ.out.2.2.on hq.2.2 HW.out.2⟩
            clear hcl hex hsub he hwb hst hfl hbx hbm
            go_wp2_with fail
            refine hC.mono ?_
            clear hC f0 f1 f2 f3 f4 b3 HJ
            rintro _ w' ⟨g', n', c', rfl, HQ⟩
            have HN2 : Hid _ := HNX.out g' n' c' w' HQ.out
            clear HQ HNX
            go_wp2_with fail
            go_roundw
            case rel => exact ⟨j + 1, g', n', c', by omega, by go_num, rfl, HN2.out⟩
            case measure => simp [intOf]; omega
          · obtain rfl : j = lE := by omega
            have hjl' : decide ((j : Int) < (j : Int)) = false := by simp
            have HJ2 : Hid (n = AE.length ∧ RowAt wx g c AE ∧ Stays B0 wx w.heap.size og g #[.int .i64 3, .int .i64 N, .string S, .slice a3 j c3, .slice a4 lC c4] bg bc but fp) := by
              have hq := HJ.out
              rw [← HLE.out, List.take_length, HAE.out] at hq
              rw [← HLE.out]
              exact hq
            clear HJ hbx HEL
            go_wp2_with fail
            clear b3 hjl hjl'
            rename World => wz
            go_loopw [0, 8] (fun v i wx => ∃ (i' g n c : Nat), i' ≤ lC ∧ i = .int .i64 i' ∧ v = .slice (some ⟨g, 0, none⟩) n c ∧ Hid (n = ((CS.take i').foldl (fun o c => freeX d (but ++ vars d c.1) o c.2) AE).length ∧ RowAt wx g c ((CS.take i').foldl (fun o c => freeX d (but ++ vars d c.1) o c.2) AE) ∧ Stays B0 wx w.heap.size og g #[.int .i64 3, .int .i64 N, .string S, .slice a3 j c3, .slice a4 lC c4] bg bc but fp)) (fun _ i _ => lC - (intOf i).toNat)
            case atStart => exact ⟨0, g, n, c, Nat.zero_le _, rfl, rfl, HJ2.out⟩
            case round =>
              clear HJ2
              rename World => wx
              obtain ⟨i, g, n, c, hi, rfl, rfl, HJ⟩ := hrel
              have hbx := HJ.out.2.2.box
              have b4 : wx.cell? ⟨w.heap.size, 4, none⟩ = some (.slice a4 lC c4) := by rw [cell_of_row wx _ 4 _ _ _ hbx]; rfl
              by_cases hil : i < lC
              · obtain ⟨⟨P, X⟩, he⟩ : ∃ e, CS[i]? = some e := ⟨_, List.getElem?_eq_getElem (by rw [HLC.out]; exact hil)⟩
                obtain ⟨cg, ps, us, fP, fX, ha4, hbm, ⟨y0, y1, y2, ya3, yl3, yc3, ya4, yl4, yc4, rfl⟩, ⟨x0, x1, x2, xa3, xl3, xc3, xa4, xl4, xc4, rfl⟩, hcl, hcl2, hexP, hexX, hsub⟩ := HCL.out i _ he
                rw [ha4] at b4
                clear ha4
                have hwb := HW.out.1 wx HJ.out.2.2.blk
                have f0 : wx.cell? ⟨cg, i * 10, none⟩ = some (.int .i64 y0) := hcl wx (hwb cg hbm) 0 _ rfl
                have f1 : wx.cell? ⟨cg, i * 10 + 1, none⟩ = some (.int .i64 y1) := hcl wx (hwb cg hbm) 1 _ rfl
                have f2 : wx.cell? ⟨cg, i * 10 + 2, none⟩ = some (.string y2) := hcl wx (hwb cg hbm) 2 _ rfl
                have f3 : wx.cell? ⟨cg, i * 10 + 3, none⟩ = some (.slice ya3 yl3 yc3) := hcl wx (hwb cg hbm) 3 _ rfl
                have f4 : wx.cell? ⟨cg, i * 10 + 4, none⟩ = some (.slice ya4 yl4 yc4) := hcl wx (hwb cg hbm) 4 _ rfl
                have k0 : wx.cell? ⟨cg, i * 10 + 5, none⟩ = some (.int .i64 x0) := hcl2 wx (hwb cg hbm) 0 _ rfl
                have k1 : wx.cell? ⟨cg, i * 10 + 5 + 1, none⟩ = some (.int .i64 x1) := hcl2 wx (hwb cg hbm) 1 _ rfl
                have k2 : wx.cell? ⟨cg, i * 10 + 5 + 2, none⟩ = some (.string x2) := hcl2 wx (hwb cg hbm) 2 _ rfl
                have k3 : wx.cell? ⟨cg, i * 10 + 5 + 3, none⟩ = some (.slice xa3 xl3 xc3) := hcl2 wx (hwb cg hbm) 3 _ rfl
                have k4 : wx.cell? ⟨cg, i * 10 + 5 + 4, none⟩ = some (.slice xa4 xl4 xc4) := hcl2 wx (hwb cg hbm) 4 _ rfl
                have hst := szRow_take (f := ClF (szX d)) he
                have hcf : ClF (szX d) (P, X) = szX d P + szX d X := rfl
                have hfl := foldC_len (b := but) (CS.take i) AE
                have hvl := vars_len d P
                have HVS : Hid (∀ V, Below wx.heap.size wx V → _) := fun V hV => specVars_any d _ P V (ExR.lasts d _ _ _ _ (ExO.reads d _ _ _ _ (ExO.lasts d _ _ _ _ _ hexP fun k hk => hwb k (hsub k (List.mem_append_left _ hk)))) hV) (by have := HZ.out; omega)
                obtain ⟨VP, hVP⟩ : ∃ l, vars d P = l := ⟨_, rfl⟩
                have HVP : Hid (vars d P = VP) := hVP
                rw [hVP] at HVS hvl
                have hvl' : VP.length ≤ 1048577 := by have := HZ.out; omega
                have HST : Hid (Stays B0 wx w.heap.size og g #[.int .i64 3, .int .i64 N, .string S, .slice a3 j c3, .slice a4 lC c4] bg bc but fp) := HJ.out.2.2
                have HCX : Hid (∀ V : World, Below wx.heap.size wx V → ∀ ig ic, RowAt V ig ic (but ++ VP) → wx.heap.size ≤ ig → Calls Try.prog 37 #[.slice (some ⟨g, 0, none⟩) n c, .slice (some ⟨ig, 0, none⟩) (but ++ VP).length ic, .agg #[.int .i64 x0, .int .i64 x1, .string x2, .slice xa3 xl3 xc3, .slice xa4 xl4 xc4]] V fun e w' => ∃ g' n' c', e = .returned (.slice (some ⟨g', 0, none⟩) n' c') ∧ Hid (n' = ((CS.take (i + 1)).foldl (fun o c => freeX d (but ++ vars d c.1) o c.2) AE).length ∧ RowAt w' g' c' ((CS.take (i + 1)).foldl (fun o c => freeX d (but ++ vars d c.1) o c.2) AE) ∧ Stays B0 w' w.heap.size og g' #[.int .i64 3, .int .i64 N, .string S, .slice a3 j c3, .slice a4 lC c4] bg bc but fp)) := fun V hV ig ic hrow hig => by
                  have hgl := HJ.out.2.1.lt
                  have hC := HI.out _ X fX V g c _ ig ic (but ++ VP) (ExO.lasts d _ _ _ _ _ hexX fun k hk => (hV.block k (Nat.lt_of_lt_of_le (HW.out.2 k (hsub k (List.mem_append_right _ hk))) HJ.out.2.2.grew.grown.size)).trans (hwb k (hsub k (List.mem_append_right _ hk)))) (fun k hk => Nat.lt_of_lt_of_le (HW.out.2 k (hsub k (List.mem_append_right _ hk))) (Nat.le_trans HJ.out.2.2.grew.grown.size hV.size)) (by have := HZ.out; omega) (HJ.out.2.1.kept (hV.block g hgl)) hrow (fun hm => HJ.out.2.2.far.2.2 (hsub g (List.mem_append_right _ hm))) (by omega) (by have := HZ.out; have := HBD.out; have := HAL.out; omega) (by rw [List.length_append]; have := HZ.out; have := HBD.out; have := HBN.out; omega)
                  rw [← HJ.out.1] at hC
                  refine hC.mono ?_
                  rintro e w' ⟨g', n', c', rfl, HQ⟩
                  refine ⟨g', n', c', rfl, ?_⟩
                  rw [foldC_next he]
                  simp only [HVP.out]
                  exact ⟨HQ.out.1, HQ.out.2.1, (HJ.out.2.2.later hV HW.out.2).on HQ.out.2.2 HW.out.2⟩
                have hil' : (i : Int) < (lC : Int) := by omega
                clear hcl hcl2 hexP hexX hsub he hwb hst hfl hbm hcf hvl HJ
                go_wp2_with fail
                go_cut [9] (fun v wy => ∃ ig n9 c9 : Nat, v = .slice (some ⟨ig, 0, none⟩) n9 c9 ∧ Hid (n9 = (but ++ VP).length ∧ RowAt wy ig c9 (but ++ VP) ∧ Below wx.heap.size wx wy ∧ wx.heap.size ≤ ig))
                case first =>
                  refine wp_region_held (S := fun X => Below wx.heap.size wx X) (by kernel_rfl) ?_
                  change wpAnyH _ _ _ _ _ _ _ _ (World.drew _)
                  have hS0 : Below wx.heap.size wx (World.drew wx) := (Below.refl _ _).drew
                  generalize hA0 : (Act.mk _ _) = A0
                  have z0 : A0.tmps.size = 75 := by rw [← hA0]; rfl
                  have e5_0 : A0.eval (.tmp 5) = (.pointer (some ⟨w.heap.size, 0, none⟩)) := by rw [← hA0]; rfl
                  have e1_0 : A0.eval (.tmp 1) = (.slice (some ⟨bg, 0, none⟩) bn bc) := by rw [← hA0]; rfl
                  have e8_0 : A0.eval (.tmp 8) = (.int .i64 i) := by rw [← hA0]; rfl
                  refine wpAnyH_take (i := 1) (v := (.slice (some ⟨bg, 0, none⟩) bn bc)) rfl (by kernel_rfl) (by kernel_rfl) (by kernel_rfl) (fun _ _ _ h => h) (Or.inl ⟨rfl, fun X hX => ?_⟩) hS0 ?_
                  · rw [BigFrame.run_move (.tmp 1) rfl X, e1_0]
                  change wpAnyH _ _ _ _ _ _ _ (Act.put A0 (some 55) ((.slice (some ⟨bg, 0, none⟩) bn bc))) _
                  generalize hA1 : Act.put A0 (some 55) ((.slice (some ⟨bg, 0, none⟩) bn bc)) = A1
                  have z1 : A1.tmps.size = 75 := by rw [← hA1, put_size]; exact z0
                  have e5_1 : A1.eval (.tmp 5) = (.pointer (some ⟨w.heap.size, 0, none⟩)) := by rw [← hA1, put_ne (by decide)]; exact e5_0
                  have e8_1 : A1.eval (.tmp 8) = (.int .i64 i) := by rw [← hA1, put_ne (by decide)]; exact e8_0
                  have e55_1 : A1.eval (.tmp 55) = (.slice (some ⟨bg, 0, none⟩) bn bc) := by rw [← hA1]; exact put_same (by rw [z0]; decide)
                  clear e5_0 e1_0 e8_0 z0
                  refine wpAnyH_take (i := 3) (v := (.pointer (some ⟨w.heap.size, 4, none⟩))) rfl (by kernel_rfl) (by kernel_rfl) (by kernel_rfl) (fun _ _ _ h => h) (Or.inl ⟨rfl, fun X hX => ?_⟩) hS0 ?_
                  · exact run_fieldAddr (Try.fieldX4 _ _) rfl e5_1 X
                  change wpAnyH _ _ _ _ _ _ _ (Act.put A1 (some 57) ((.pointer (some ⟨w.heap.size, 4, none⟩)))) _
                  generalize hA2 : Act.put A1 (some 57) ((.pointer (some ⟨w.heap.size, 4, none⟩))) = A2
                  have z2 : A2.tmps.size = 75 := by rw [← hA2, put_size]; exact z1
                  have e8_2 : A2.eval (.tmp 8) = (.int .i64 i) := by rw [← hA2, put_ne (by decide)]; exact e8_1
                  have e55_2 : A2.eval (.tmp 55) = (.slice (some ⟨bg, 0, none⟩) bn bc) := by rw [← hA2, put_ne (by decide)]; exact e55_1
                  have e57_2 : A2.eval (.tmp 57) = (.pointer (some ⟨w.heap.size, 4, none⟩)) := by rw [← hA2]; exact put_same (by rw [z1]; decide)
                  clear e5_1 e8_1 e55_1 z1
                  refine wpAnyH_take (i := 4) (v := (.slice (some ⟨cg, 0, none⟩) lC c4)) rfl (by kernel_rfl) (by kernel_rfl) (by kernel_rfl) (fun _ _ _ h => h) (Or.inl ⟨rfl, fun X hX => ?_⟩) hS0 ?_
                  · exact run_load (Try.load4 _ _ _ _ _ (cell_later hX b4)) rfl e57_2
                  change wpAnyH _ _ _ _ _ _ _ (Act.put A2 (some 58) ((.slice (some ⟨cg, 0, none⟩) lC c4))) _
                  generalize hA3 : Act.put A2 (some 58) ((.slice (some ⟨cg, 0, none⟩) lC c4)) = A3
                  have z3 : A3.tmps.size = 75 := by rw [← hA3, put_size]; exact z2
                  have e8_3 : A3.eval (.tmp 8) = (.int .i64 i) := by rw [← hA3, put_ne (by decide)]; exact e8_2
                  have e55_3 : A3.eval (.tmp 55) = (.slice (some ⟨bg, 0, none⟩) bn bc) := by rw [← hA3, put_ne (by decide)]; exact e55_2
                  have e58_3 : A3.eval (.tmp 58) = (.slice (some ⟨cg, 0, none⟩) lC c4) := by rw [← hA3]; exact put_same (by rw [z2]; decide)
                  clear e8_2 e55_2 e57_2 z2
                  refine wpAnyH_take (i := 5) (v := (.int .i64 i)) rfl (by kernel_rfl) (by kernel_rfl) (by kernel_rfl) (fun _ _ _ h => h) (Or.inl ⟨rfl, fun X hX => ?_⟩) hS0 ?_
                  · rw [BigFrame.run_move (.tmp 8) rfl X, e8_3]
                  change wpAnyH _ _ _ _ _ _ _ (Act.put A3 (some 59) ((.int .i64 i))) _
                  generalize hA4 : Act.put A3 (some 59) ((.int .i64 i)) = A4
                  have z4 : A4.tmps.size = 75 := by rw [← hA4, put_size]; exact z3
                  have e55_4 : A4.eval (.tmp 55) = (.slice (some ⟨bg, 0, none⟩) bn bc) := by rw [← hA4, put_ne (by decide)]; exact e55_3
                  have e58_4 : A4.eval (.tmp 58) = (.slice (some ⟨cg, 0, none⟩) lC c4) := by rw [← hA4, put_ne (by decide)]; exact e58_3
                  have e59_4 : A4.eval (.tmp 59) = (.int .i64 i) := by rw [← hA4]; exact put_same (by rw [z3]; decide)
                  clear e8_3 e55_3 e58_3 z3
                  refine wpAnyH_take (i := 6) (v := (.pointer (some ⟨cg, i * 10, none⟩))) rfl (by kernel_rfl) (by kernel_rfl) (by kernel_rfl) (fun _ _ _ h => h) (Or.inl ⟨rfl, fun X hX => ?_⟩) hS0 ?_
                  · exact run_index (Try.indexC _ _ _ _ hil) rfl e58_4 e59_4 X
                  change wpAnyH _ _ _ _ _ _ _ (Act.put A4 (some 60) ((.pointer (some ⟨cg, i * 10, none⟩)))) _
                  generalize hA5 : Act.put A4 (some 60) ((.pointer (some ⟨cg, i * 10, none⟩))) = A5
                  have z5 : A5.tmps.size = 75 := by rw [← hA5, put_size]; exact z4
                  have e55_5 : A5.eval (.tmp 55) = (.slice (some ⟨bg, 0, none⟩) bn bc) := by rw [← hA5, put_ne (by decide)]; exact e55_4
                  have e60_5 : A5.eval (.tmp 60) = (.pointer (some ⟨cg, i * 10, none⟩)) := by rw [← hA5]; exact put_same (by rw [z4]; decide)
                  clear e55_4 e58_4 e59_4 z4
                  refine wpAnyH_take (i := 7) (v := (.pointer (some ⟨cg, i * 10, none⟩))) rfl (by kernel_rfl) (by kernel_rfl) (by kernel_rfl) (fun _ _ _ h => h) (Or.inl ⟨rfl, fun X hX => ?_⟩) hS0 ?_
                  · exact run_fieldAddr (Try.fieldP' _ _) rfl e60_5 X
                  change wpAnyH _ _ _ _ _ _ _ (Act.put A5 (some 61) ((.pointer (some ⟨cg, i * 10, none⟩)))) _
                  generalize hA6 : Act.put A5 (some 61) ((.pointer (some ⟨cg, i * 10, none⟩))) = A6
                  have z6 : A6.tmps.size = 75 := by rw [← hA6, put_size]; exact z5
                  have e55_6 : A6.eval (.tmp 55) = (.slice (some ⟨bg, 0, none⟩) bn bc) := by rw [← hA6, put_ne (by decide)]; exact e55_5
                  have e61_6 : A6.eval (.tmp 61) = (.pointer (some ⟨cg, i * 10, none⟩)) := by rw [← hA6]; exact put_same (by rw [z5]; decide)
                  clear e55_5 e60_5 z5
                  refine wpAnyH_take (i := 8) (v := (.agg #[.int .i64 y0, .int .i64 y1, .string y2, .slice ya3 yl3 yc3, .slice ya4 yl4 yc4])) rfl (by kernel_rfl) (by kernel_rfl) (by kernel_rfl) (fun _ _ _ h => h) (Or.inl ⟨rfl, fun X hX => ?_⟩) hS0 ?_
                  · exact run_load (Try.loadX _ _ _ _ _ _ _ _ _ _ _ _ (cell_later hX f0) (cell_later hX f1) (cell_later hX f2) (cell_later hX f3) (cell_later hX f4)) rfl e61_6
                  change wpAnyH _ _ _ _ _ _ _ (Act.put A6 (some 62) ((.agg #[.int .i64 y0, .int .i64 y1, .string y2, .slice ya3 yl3 yc3, .slice ya4 yl4 yc4]))) _
                  generalize hA7 : Act.put A6 (some 62) ((.agg #[.int .i64 y0, .int .i64 y1, .string y2, .slice ya3 yl3 yc3, .slice ya4 yl4 yc4])) = A7
                  have z7 : A7.tmps.size = 75 := by rw [← hA7, put_size]; exact z6
                  have e55_7 : A7.eval (.tmp 55) = (.slice (some ⟨bg, 0, none⟩) bn bc) := by rw [← hA7, put_ne (by decide)]; exact e55_6
                  have e62_7 : A7.eval (.tmp 62) = (.agg #[.int .i64 y0, .int .i64 y1, .string y2, .slice ya3 yl3 yc3, .slice ya4 yl4 yc4]) := by rw [← hA7]; exact put_same (by rw [z6]; decide)
                  clear e55_6 e61_6 z6
                  refine wpAnyH_all (rs := [0]) (by kernel_rfl) (by simp) (fun i hi => ?_)
                  obtain rfl := List.mem_singleton.1 hi
                  refine wpOp_step rfl (fun K hK => ?_)
                  have hS1 : Below wx.heap.size wx ((World.drew wx).alloc (.cells #[] 9)) := (Below.refl _ _).drew.alloc (Nat.le_refl _) _
                  refine step_val rfl (run_buildNone (Try.buildNone _) rfl) (hK _ _ ⟨hS1, ?_⟩)
                  clear hK K
                  change wpAnyH _ _ _ _ _ _ _ (Act.put A7 (some 54) ((.slice (some ⟨wx.heap.size, 0, none⟩) 0 0))) _
                  generalize hA8 : Act.put A7 (some 54) ((.slice (some ⟨wx.heap.size, 0, none⟩) 0 0)) = A8
                  have z8 : A8.tmps.size = 75 := by rw [← hA8, put_size]; exact z7
                  have e55_8 : A8.eval (.tmp 55) = (.slice (some ⟨bg, 0, none⟩) bn bc) := by rw [← hA8, put_ne (by decide)]; exact e55_7
                  have e62_8 : A8.eval (.tmp 62) = (.agg #[.int .i64 y0, .int .i64 y1, .string y2, .slice ya3 yl3 yc3, .slice ya4 yl4 yc4]) := by rw [← hA8, put_ne (by decide)]; exact e62_7
                  have e54_8 : A8.eval (.tmp 54) = (.slice (some ⟨wx.heap.size, 0, none⟩) 0 0) := by rw [← hA8]; exact put_same (by rw [z7]; decide)
                  clear e55_7 e62_7 z7
                  refine wpAnyH_all (rs := [2]) (by kernel_rfl) (by simp) (fun i hi => ?_)
                  obtain rfl := List.mem_singleton.1 hi
                  refine wpOp_step rfl (fun K hK => ?_)
                  have hn0 : ((World.drew wx).alloc (.cells #[] 9)).ownsRow wx.heap.size 9 1 (.slice (some ⟨wx.heap.size, 0, none⟩) 0 0) 0 [] := ⟨rfl, .inr ⟨wx.heap.size, 0, #[], rfl, Nat.le_refl _, heap_alloc_new (World.drew wx) _, Nat.le_refl _, Nat.zero_le _, rfl, rfl⟩⟩
                  have hbr := (HST.out.row.kept (hS1.block _ HST.out.row.lt)).cells
                  refine step_append_own' rfl (.tmp 54) (.tmp 55) 29 rfl wx.heap.size 9 s0 (.string ⟨#[]⟩) 1 16 Try.underlying29 hs0 hs1 hs2 hs3 rfl (by decide) _ 0 [] e54_8 hn0 ⟨bg, 0, none⟩ bn bc (but.map Value.string) e55_8 (by rw [List.length_map, Nat.mul_one]; exact HBN.out) hbr (by intro u hu; obtain ⟨s, _, rfl⟩ := List.mem_map.1 hu; rfl) (by unfold maxLen; omega) (by omega) hS1.size ?_
                  intro v1 X1 hown1 hgrow1 hnil1 hat1
                  have hX1 : Below wx.heap.size wx X1 := hS1.trans ⟨hgrow1.os, hgrow1.tape, hgrow1.output, hgrow1.size, fun k hk => hgrow1.block k (Nat.lt_of_lt_of_le hk hS1.size) (by simp [Value.ownBlock]; omega)⟩
                  obtain ⟨g1, c1, rfl, hg1⟩ := row_some hown1 (fun e => by have := hnil1.1 e; cases this.1)
                  refine hK _ _ ⟨hX1, ?_⟩
                  clear hK K hn0 hbr hgrow1 hnil1 hat1
                  change wpAnyH _ _ _ _ _ _ _ (Act.put A8 (some 56) ((.slice (some ⟨g1, 0, none⟩) (0 + bn) c1))) _
                  generalize hA9 : Act.put A8 (some 56) ((.slice (some ⟨g1, 0, none⟩) (0 + bn) c1)) = A9
                  have z9 : A9.tmps.size = 75 := by rw [← hA9, put_size]; exact z8
                  have e62_9 : A9.eval (.tmp 62) = (.agg #[.int .i64 y0, .int .i64 y1, .string y2, .slice ya3 yl3 yc3, .slice ya4 yl4 yc4]) := by rw [← hA9, put_ne (by decide)]; exact e62_8
                  have e56_9 : A9.eval (.tmp 56) = (.slice (some ⟨g1, 0, none⟩) (0 + bn) c1) := by rw [← hA9]; exact put_same (by rw [z8]; decide)
                  clear e55_8 e62_8 e54_8 z8
                  refine wpAnyH_all (rs := [9]) (by kernel_rfl) (by simp) (fun i hi => ?_)
                  obtain rfl := List.mem_singleton.1 hi
                  refine wpOp_step rfl (fun K hK => ?_)
                  refine step_call rfl Try.enterVars rfl #[(.agg #[.int .i64 y0, .int .i64 y1, .string y2, .slice ya3 yl3 yc3, .slice ya4 yl4 yc4])] (by simp only [List.map_toArray, List.map_cons, List.map_nil]; rw [e62_9]) ?_
                  refine (HVS.out X1 hX1).mono ?_
                  rintro e X2 ⟨g2, n2, c2, rfl, HR2, hb2⟩
                  have hX2 : Below wx.heap.size wx X2 := hX1.trans (hb2.mono hX1.size)
                  refine ⟨_, rfl, hK _ _ ⟨hX2, ?_⟩⟩
                  clear hK K
                  change wpAnyH _ _ _ _ _ _ _ (Act.put A9 (some 63) ((.slice (some ⟨g2, 0, none⟩) n2 c2))) _
                  generalize hA10 : Act.put A9 (some 63) ((.slice (some ⟨g2, 0, none⟩) n2 c2)) = A10
                  have z10 : A10.tmps.size = 75 := by rw [← hA10, put_size]; exact z9
                  have e56_10 : A10.eval (.tmp 56) = (.slice (some ⟨g1, 0, none⟩) (0 + bn) c1) := by rw [← hA10, put_ne (by decide)]; exact e56_9
                  have e63_10 : A10.eval (.tmp 63) = (.slice (some ⟨g2, 0, none⟩) n2 c2) := by rw [← hA10]; exact put_same (by rw [z9]; decide)
                  clear e62_9 e56_9 z9
                  refine wpAnyH_all (rs := [10]) (by kernel_rfl) (by simp) (fun i hi => ?_)
                  obtain rfl := List.mem_singleton.1 hi
                  refine wpOp_step rfl (fun K hK => ?_)
                  have hown2 := rowKept hown1 (w' := X2) (fun k hk => hb2.block k (own_blk hown1 k hk).2)
                  obtain ⟨hn2, hcl2⟩ := HR2.out.cells
                  have hg12 : g1 ≠ g2 := by have := (own_blk hown1 g1 rfl).2; have := (own_blk HR2.out g2 rfl).1; omega
                  refine step_append_own' rfl (.tmp 56) (.tmp 63) 29 rfl wx.heap.size 9 s0 (.string ⟨#[]⟩) 1 16 Try.underlying29 hs0 hs1 hs2 hs3 rfl (by decide) _ (0 + bn) _ e56_10 hown2 ⟨g2, 0, none⟩ n2 c2 (VP.map Value.string) e63_10 (by rw [List.length_map, Nat.mul_one]; exact hn2.symm) hcl2 (by intro u hu; obtain ⟨s, _, rfl⟩ := List.mem_map.1 hu; rfl) (by unfold maxLen; omega) (by omega) hX2.size ?_
                  intro v3 X3 hown3 hgrow3 hnil3 hat3
                  have hX3 : Below wx.heap.size wx X3 := hX2.trans ⟨hgrow3.os, hgrow3.tape, hgrow3.output, hgrow3.size, fun k hk => hgrow3.block k (Nat.lt_of_lt_of_le hk hX2.size) (by simp [Value.ownBlock]; omega)⟩
                  obtain ⟨g3, c3', rfl, hg3⟩ := row_some hown3 (fun e => by have := hnil3.1 e; cases this.1)
                  have HFI : Hid (0 + bn + n2 = (but ++ VP).length ∧ RowAt X3 g3 c3' (but ++ VP) ∧ Below wx.heap.size wx X3 ∧ wx.heap.size ≤ g3) := by
                    have e1 : 0 + bn + n2 = (but ++ VP).length := by rw [List.length_append, hn2]; have := HBN.out; omega
                    refine ⟨e1, ?_, hX3, hg3⟩
                    have := row_low hown3 (Nat.zero_le _)
                    unfold RowAt
                    rw [← e1, List.map_append]
                    simpa using this
                  refine hK _ _ ⟨hX3, ?_⟩
                  clear hK K hown1 hown2 hown3 hgrow3 hnil3 hat3 hcl2 HR2
                  change wpAnyH _ _ _ _ _ _ _ (Act.put A10 (some 64) ((.slice (some ⟨g3, 0, none⟩) (0 + bn + n2) c3'))) _
                  generalize hA11 : Act.put A10 (some 64) ((.slice (some ⟨g3, 0, none⟩) (0 + bn + n2) c3')) = A11
                  have z11 : A11.tmps.size = 75 := by rw [← hA11, put_size]; exact z10
                  have e64_11 : A11.eval (.tmp 64) = (.slice (some ⟨g3, 0, none⟩) (0 + bn + n2) c3') := by rw [← hA11]; exact put_same (by rw [z10]; decide)
                  clear e56_10 e63_10 z10
                  refine wpAnyH_take (i := 11) (v := (.slice (some ⟨g3, 0, none⟩) (0 + bn + n2) c3')) rfl (by kernel_rfl) (by kernel_rfl) (by kernel_rfl) (fun _ _ _ h => h) (Or.inl ⟨rfl, fun X hX => ?_⟩) hX3 ?_
                  · rw [BigFrame.run_assign (.tmp 64) rfl X, e64_11]
                  change wpAnyH _ _ _ _ _ _ _ (Act.put A11 (some 9) _) _
                  generalize hA12 : Act.put A11 (some 9) _ = A12
                  refine wpAnyH_done (by kernel_rfl) ?_ _
                  clear e64_11 z11
                  subst hA12 hA11 hA10 hA9 hA8 hA7 hA6 hA5 hA4 hA3 hA2 hA1 hA0
                  simp only [Act.put, List.setIfInBounds_toArray, List.set_cons_zero, List.set_cons_succ]
                  go_wp2_with fail
                  go_meet
                  case rel => exact ⟨_, _, _, rfl, HFI⟩

                case rest =>
                  obtain ⟨ig, n9, c9, rfl, HV9⟩ := hcut
                  obtain ⟨wy, hwy⟩ : ∃ wy, wy = wc := ⟨_, rfl⟩
                  rw [← hwy] at HV9 ⊢
                  have hB := HV9.out.2.2.1
                  have b4' := cell_later hB b4
                  have k0' := cell_later hB k0
                  have k1' := cell_later hB k1
                  have k2' := cell_later hB k2
                  have k3' := cell_later hB k3
                  have k4' := cell_later hB k4
                  have hC := HCX.out wy hB ig c9 HV9.out.2.1 HV9.out.2.2.2
                  rw [← HV9.out.1] at hC
                  clear HCX HVS HST b4 f0 f1 f2 f3 f4 k0 k1 k2 k3 k4 hwy hbx hB
                  go_wp2_with fail
                  refine hC.mono ?_
                  clear hC b4' k0' k1' k2' k3' k4' HV9
                  rintro _ w' ⟨g', n', c', rfl, HQ⟩
                  go_wp2_with fail
                  go_roundw
                  case rel => exact ⟨i + 1, g', n', c', by omega, by go_num, rfl, HQ.out⟩
                  case measure => simp [intOf]; omega
              · obtain rfl : i = lC := by omega
                have hil' : decide ((i : Int) < (i : Int)) = false := by simp
                have HX : Hid (∃ g' n' c', (Value.slice (some ⟨g, 0, none⟩) n c) = .slice (some ⟨g', 0, none⟩) n' c' ∧ (n' = FIN.length ∧ RowAt wx g' c' FIN ∧ Grew w wx og g')) := by
                  have hq := HJ.out
                  rw [← HLC.out, List.take_length, HFIN.out] at hq
                  exact ⟨g, n, c, rfl, hq.1, hq.2.1, HGB.out.trans hq.2.2.grew⟩
                clear HJ hbx HCL
                go_wp2_with fail
                go_ret
                obtain ⟨g', n', c', e1, e2⟩ := HX.out
                exact ⟨g, n, c, rfl, by simp only [Value.slice.injEq, Option.some.injEq, Addr.mk.injEq, and_true] at e1; obtain ⟨rfl, rfl, rfl⟩ := e1; exact e2⟩

      | false =>
        have HNO : Hid (¬ S ∈ out) := fun h => by have := hb.out.2 h; cases this
        clear hb
        have hA : ACC = out ++ [S] := by rw [← hACC]; exact tellX_yes HNB.out HNO.out
        have HRW : Hid ((w.alloc (.cells #[.int .i64 3, .int .i64 N, .string S, .slice a3 lE c3, .slice a4 lC c4] 27)).ownsRow 0 9 1 (.slice (some ⟨og, 0, none⟩) on oc) on (out.map Value.string)) := by
          have := HRX.out
          unfold RowAt at this
          rw [HON.out] at this
          exact this
        go_wp2_with (at_builtin; (refine wpList_append_own_at _ rfl _ _ 29 rfl 0 9 s0 (.string ⟨#[]⟩) 1 16 Try.underlying29 hs0 hs1 hs2 hs3 rfl (by decide) _ _ _ rfl (HRW.out.alloc _) ⟨w.heap.size + 1, 0, none⟩ 1 1 ([S].map Value.string) rfl rfl (new_one (.string S) 9 (by simp)) (by intro u hu; simp at hu; subst hu; rfl) (by unfold maxLen; omega) (by omega) (Nat.zero_le _) ?_; intro v' w1 hown5 hgrow5 hnil5 hat5; obtain ⟨g1, c1, rfl, _⟩ := row_some hown5 (fun e => by have := hnil5.1 e; cases this.1)))
        have HS1 : Hid (Stays B0 w1 w.heap.size og g1 #[.int .i64 3, .int .i64 N, .string S, .slice a3 lE c3, .slice a4 lC c4] bg bc but fp) := by
          rw [← HB0.out] at hgrow5 hat5
          have hb4 : Below B0.heap.size B0 (B0.alloc (.cells #[.string S] 9)) := (Below.refl _ _).alloc (Nat.le_refl _) _
          refine (HS0.out.later hb4 HW.out.2).on ⟨hgrow5, ?_⟩ HW.out.2
          rcases hat5 with e | e
          · left; have e2 : (some g1 : Option Nat) = some og := e; simpa using e2
          · right; have : g1 = (B0.alloc (.cells #[.string S] 9)).heap.size := by simpa [Value.ownBlock] using e
            omega
        have HR1 : Hid (on + 1 = ((ES.take 0).foldl (fun o x => freeX d but o x) ACC).length ∧ RowAt w1 g1 c1 ((ES.take 0).foldl (fun o x => freeX d but o x) ACC)) := by
          rw [List.take_zero, List.foldl_nil, hA]
          have e1 : (out ++ [S]).length = on + 1 := by rw [List.length_append, HON.out]; rfl
          refine ⟨e1.symm, ?_⟩
          unfold RowAt
          rw [e1]
          simpa using hown5
        clear hown5 hgrow5 hnil5 hat5 HRW HRX HR0 HS0 hA hACC HON HNB HNO cK cS
        obtain ⟨n1, hn1⟩ : ∃ n, n = on + 1 := ⟨_, rfl⟩
        go_loopw [0, 7] (fun v i wx => ∃ (j g n c : Nat), j ≤ lE ∧ i = .int .i64 j ∧ v = .slice (some ⟨g, 0, none⟩) n c ∧ Hid (n = ((ES.take j).foldl (fun o x => freeX d but o x) ACC).length ∧ RowAt wx g c ((ES.take j).foldl (fun o x => freeX d but o x) ACC) ∧ Stays B0 wx w.heap.size og g #[.int .i64 3, .int .i64 N, .string S, .slice a3 lE c3, .slice a4 lC c4] bg bc but fp)) (fun _ i _ => lE - (intOf i).toNat)
        case atStart => exact ⟨0, g1, on + 1, c1, Nat.zero_le _, rfl, rfl, HR1.out.1, HR1.out.2, HS1.out⟩
        case round =>
          clear HR1 HS1
          rename World => wx
          obtain ⟨j, g, n, c, hj, rfl, rfl, HJ⟩ := hrel
          have hbx := HJ.out.2.2.box
          have b3 : wx.cell? ⟨w.heap.size, 3, none⟩ = some (.slice a3 lE c3) := by rw [cell_of_row wx _ 3 _ _ _ hbx]; rfl
          by_cases hjl : j < lE
          · obtain ⟨e, he⟩ : ∃ e, ES[j]? = some e := ⟨_, List.getElem?_eq_getElem (by rw [HLE.out]; exact hjl)⟩
            obtain ⟨b, vs, f, ha3, hbm, ⟨y0, y1, y2, ya3, yl3, yc3, ya4, yl4, yc4, rfl⟩, hcl, hex, hsub⟩ := HEL.out j e he
            rw [ha3] at b3
            clear ha3
            have hwb := HW.out.1 wx HJ.out.2.2.blk
            have f0 : wx.cell? ⟨b, j * 5, none⟩ = some (.int .i64 y0) := hcl wx (hwb b hbm) 0 _ rfl
            have f1 : wx.cell? ⟨b, j * 5 + 1, none⟩ = some (.int .i64 y1) := hcl wx (hwb b hbm) 1 _ rfl
            have f2 : wx.cell? ⟨b, j * 5 + 2, none⟩ = some (.string y2) := hcl wx (hwb b hbm) 2 _ rfl
            have f3 : wx.cell? ⟨b, j * 5 + 3, none⟩ = some (.slice ya3 yl3 yc3) := hcl wx (hwb b hbm) 3 _ rfl
            have f4 : wx.cell? ⟨b, j * 5 + 4, none⟩ = some (.slice ya4 yl4 yc4) := hcl wx (hwb b hbm) 4 _ rfl
            have hst := szRow_take (f := szX d) he
            have hfl := foldE_len (b := but) (ES.take j) ACC
            have hC := HI.out _ e f wx g c _ bg bc but (ExO.lasts d _ _ _ _ _ hex fun k hk => hwb k (hsub k hk)) (fun k hk => Nat.lt_of_lt_of_le (HW.out.2 k (hsub k hk)) HJ.out.2.2.grew.grown.size) (by have := HZ.out; omega) HJ.out.2.1 HJ.out.2.2.row (fun hm => HJ.out.2.2.far.2.2 (hsub g hm)) HJ.out.2.2.far.2.1 (by have := HZ.out; have := HBD.out; omega) (by have := HZ.out; have := HBD.out; omega)
            rw [← HJ.out.1, HBN.out] at hC
            have hjl' : (j : Int) < (lE : Int) := by omega
            have HNX : Hid (∀ g' n' c' w', n' = (freeX d but ((ES.take j).foldl (fun o x => freeX d but o x) ACC) e).length ∧ RowAt w' g' c' (freeX d but ((ES.take j).foldl (fun o x => freeX d but o x) ACC) e) ∧ Grew wx w' g g' → n' = ((ES.take (j + 1)).foldl (fun o x => freeX d but o x) ACC).length ∧ RowAt w' g' c' ((ES.take (j + 1)).foldl (fun o x => freeX d but o x) ACC) ∧ Stays B0 w' w.heap.size og g' #[.int .i64 3, .int .i64 N, .string S, .slice a3 lE c3, .slice a4 lC c4] bg bc but fp) := fun g' n' c' w' hq => by
              rw [foldE_next he]
              exact ⟨hq.1, hq.2.1, HJ.out.2.2.on hq.2.2 HW.out.2⟩
            clear hcl hex hsub he hwb hst hfl hbx hbm
            go_wp2_with fail
            refine hC.mono ?_
            clear hC f0 f1 f2 f3 f4 b3 HJ
            rintro _ w' ⟨g', n', c', rfl, HQ⟩
            have HN2 : Hid _ := HNX.out g' n' c' w' HQ.out
            clear HQ HNX
            go_wp2_with fail
            go_roundw
            case rel => exact ⟨j + 1, g', n', c', by omega, by go_num, rfl, HN2.out⟩
            case measure => simp [intOf]; omega
          · obtain rfl : j = lE := by omega
            have hjl' : decide ((j : Int) < (j : Int)) = false := by simp
            have HJ2 : Hid (n = AE.length ∧ RowAt wx g c AE ∧ Stays B0 wx w.heap.size og g #[.int .i64 3, .int .i64 N, .string S, .slice a3 j c3, .slice a4 lC c4] bg bc but fp) := by
              have hq := HJ.out
              rw [← HLE.out, List.take_length, HAE.out] at hq
              rw [← HLE.out]
              exact hq
            clear HJ hbx HEL
            go_wp2_with fail
            clear b3 hjl hjl'
            rename World => wz
            go_loopw [0, 8] (fun v i wx => ∃ (i' g n c : Nat), i' ≤ lC ∧ i = .int .i64 i' ∧ v = .slice (some ⟨g, 0, none⟩) n c ∧ Hid (n = ((CS.take i').foldl (fun o c => freeX d (but ++ vars d c.1) o c.2) AE).length ∧ RowAt wx g c ((CS.take i').foldl (fun o c => freeX d (but ++ vars d c.1) o c.2) AE) ∧ Stays B0 wx w.heap.size og g #[.int .i64 3, .int .i64 N, .string S, .slice a3 j c3, .slice a4 lC c4] bg bc but fp)) (fun _ i _ => lC - (intOf i).toNat)
            case atStart => exact ⟨0, g, n, c, Nat.zero_le _, rfl, rfl, HJ2.out⟩
            case round =>
              clear HJ2
              rename World => wx
              obtain ⟨i, g, n, c, hi, rfl, rfl, HJ⟩ := hrel
              have hbx := HJ.out.2.2.box
              have b4 : wx.cell? ⟨w.heap.size, 4, none⟩ = some (.slice a4 lC c4) := by rw [cell_of_row wx _ 4 _ _ _ hbx]; rfl
              by_cases hil : i < lC
              · obtain ⟨⟨P, X⟩, he⟩ : ∃ e, CS[i]? = some e := ⟨_, List.getElem?_eq_getElem (by rw [HLC.out]; exact hil)⟩
                obtain ⟨cg, ps, us, fP, fX, ha4, hbm, ⟨y0, y1, y2, ya3, yl3, yc3, ya4, yl4, yc4, rfl⟩, ⟨x0, x1, x2, xa3, xl3, xc3, xa4, xl4, xc4, rfl⟩, hcl, hcl2, hexP, hexX, hsub⟩ := HCL.out i _ he
                rw [ha4] at b4
                clear ha4
                have hwb := HW.out.1 wx HJ.out.2.2.blk
                have f0 : wx.cell? ⟨cg, i * 10, none⟩ = some (.int .i64 y0) := hcl wx (hwb cg hbm) 0 _ rfl
                have f1 : wx.cell? ⟨cg, i * 10 + 1, none⟩ = some (.int .i64 y1) := hcl wx (hwb cg hbm) 1 _ rfl
                have f2 : wx.cell? ⟨cg, i * 10 + 2, none⟩ = some (.string y2) := hcl wx (hwb cg hbm) 2 _ rfl
                have f3 : wx.cell? ⟨cg, i * 10 + 3, none⟩ = some (.slice ya3 yl3 yc3) := hcl wx (hwb cg hbm) 3 _ rfl
                have f4 : wx.cell? ⟨cg, i * 10 + 4, none⟩ = some (.slice ya4 yl4 yc4) := hcl wx (hwb cg hbm) 4 _ rfl
                have k0 : wx.cell? ⟨cg, i * 10 + 5, none⟩ = some (.int .i64 x0) := hcl2 wx (hwb cg hbm) 0 _ rfl
                have k1 : wx.cell? ⟨cg, i * 10 + 5 + 1, none⟩ = some (.int .i64 x1) := hcl2 wx (hwb cg hbm) 1 _ rfl
                have k2 : wx.cell? ⟨cg, i * 10 + 5 + 2, none⟩ = some (.string x2) := hcl2 wx (hwb cg hbm) 2 _ rfl
                have k3 : wx.cell? ⟨cg, i * 10 + 5 + 3, none⟩ = some (.slice xa3 xl3 xc3) := hcl2 wx (hwb cg hbm) 3 _ rfl
                have k4 : wx.cell? ⟨cg, i * 10 + 5 + 4, none⟩ = some (.slice xa4 xl4 xc4) := hcl2 wx (hwb cg hbm) 4 _ rfl
                have hst := szRow_take (f := ClF (szX d)) he
                have hcf : ClF (szX d) (P, X) = szX d P + szX d X := rfl
                have hfl := foldC_len (b := but) (CS.take i) AE
                have hvl := vars_len d P
                have HVS : Hid (∀ V, Below wx.heap.size wx V → _) := fun V hV => specVars_any d _ P V (ExR.lasts d _ _ _ _ (ExO.reads d _ _ _ _ (ExO.lasts d _ _ _ _ _ hexP fun k hk => hwb k (hsub k (List.mem_append_left _ hk)))) hV) (by have := HZ.out; omega)
                obtain ⟨VP, hVP⟩ : ∃ l, vars d P = l := ⟨_, rfl⟩
                have HVP : Hid (vars d P = VP) := hVP
                rw [hVP] at HVS hvl
                have hvl' : VP.length ≤ 1048577 := by have := HZ.out; omega
                have HST : Hid (Stays B0 wx w.heap.size og g #[.int .i64 3, .int .i64 N, .string S, .slice a3 j c3, .slice a4 lC c4] bg bc but fp) := HJ.out.2.2
                have HCX : Hid (∀ V : World, Below wx.heap.size wx V → ∀ ig ic, RowAt V ig ic (but ++ VP) → wx.heap.size ≤ ig → Calls Try.prog 37 #[.slice (some ⟨g, 0, none⟩) n c, .slice (some ⟨ig, 0, none⟩) (but ++ VP).length ic, .agg #[.int .i64 x0, .int .i64 x1, .string x2, .slice xa3 xl3 xc3, .slice xa4 xl4 xc4]] V fun e w' => ∃ g' n' c', e = .returned (.slice (some ⟨g', 0, none⟩) n' c') ∧ Hid (n' = ((CS.take (i + 1)).foldl (fun o c => freeX d (but ++ vars d c.1) o c.2) AE).length ∧ RowAt w' g' c' ((CS.take (i + 1)).foldl (fun o c => freeX d (but ++ vars d c.1) o c.2) AE) ∧ Stays B0 w' w.heap.size og g' #[.int .i64 3, .int .i64 N, .string S, .slice a3 j c3, .slice a4 lC c4] bg bc but fp)) := fun V hV ig ic hrow hig => by
                  have hgl := HJ.out.2.1.lt
                  have hC := HI.out _ X fX V g c _ ig ic (but ++ VP) (ExO.lasts d _ _ _ _ _ hexX fun k hk => (hV.block k (Nat.lt_of_lt_of_le (HW.out.2 k (hsub k (List.mem_append_right _ hk))) HJ.out.2.2.grew.grown.size)).trans (hwb k (hsub k (List.mem_append_right _ hk)))) (fun k hk => Nat.lt_of_lt_of_le (HW.out.2 k (hsub k (List.mem_append_right _ hk))) (Nat.le_trans HJ.out.2.2.grew.grown.size hV.size)) (by have := HZ.out; omega) (HJ.out.2.1.kept (hV.block g hgl)) hrow (fun hm => HJ.out.2.2.far.2.2 (hsub g (List.mem_append_right _ hm))) (by omega) (by have := HZ.out; have := HBD.out; have := HAL.out; omega) (by rw [List.length_append]; have := HZ.out; have := HBD.out; have := HBN.out; omega)
                  rw [← HJ.out.1] at hC
                  refine hC.mono ?_
                  rintro e w' ⟨g', n', c', rfl, HQ⟩
                  refine ⟨g', n', c', rfl, ?_⟩
                  rw [foldC_next he]
                  simp only [HVP.out]
                  exact ⟨HQ.out.1, HQ.out.2.1, (HJ.out.2.2.later hV HW.out.2).on HQ.out.2.2 HW.out.2⟩
                have hil' : (i : Int) < (lC : Int) := by omega
                clear hcl hcl2 hexP hexX hsub he hwb hst hfl hbm hcf hvl HJ
                go_wp2_with fail
                go_cut [9] (fun v wy => ∃ ig n9 c9 : Nat, v = .slice (some ⟨ig, 0, none⟩) n9 c9 ∧ Hid (n9 = (but ++ VP).length ∧ RowAt wy ig c9 (but ++ VP) ∧ Below wx.heap.size wx wy ∧ wx.heap.size ≤ ig))
                case first =>
                  refine wp_region_held (S := fun X => Below wx.heap.size wx X) (by kernel_rfl) ?_
                  change wpAnyH _ _ _ _ _ _ _ _ (World.drew _)
                  have hS0 : Below wx.heap.size wx (World.drew wx) := (Below.refl _ _).drew
                  generalize hA0 : (Act.mk _ _) = A0
                  have z0 : A0.tmps.size = 75 := by rw [← hA0]; rfl
                  have e5_0 : A0.eval (.tmp 5) = (.pointer (some ⟨w.heap.size, 0, none⟩)) := by rw [← hA0]; rfl
                  have e1_0 : A0.eval (.tmp 1) = (.slice (some ⟨bg, 0, none⟩) bn bc) := by rw [← hA0]; rfl
                  have e8_0 : A0.eval (.tmp 8) = (.int .i64 i) := by rw [← hA0]; rfl
                  refine wpAnyH_take (i := 1) (v := (.slice (some ⟨bg, 0, none⟩) bn bc)) rfl (by kernel_rfl) (by kernel_rfl) (by kernel_rfl) (fun _ _ _ h => h) (Or.inl ⟨rfl, fun X hX => ?_⟩) hS0 ?_
                  · rw [BigFrame.run_move (.tmp 1) rfl X, e1_0]
                  change wpAnyH _ _ _ _ _ _ _ (Act.put A0 (some 55) ((.slice (some ⟨bg, 0, none⟩) bn bc))) _
                  generalize hA1 : Act.put A0 (some 55) ((.slice (some ⟨bg, 0, none⟩) bn bc)) = A1
                  have z1 : A1.tmps.size = 75 := by rw [← hA1, put_size]; exact z0
                  have e5_1 : A1.eval (.tmp 5) = (.pointer (some ⟨w.heap.size, 0, none⟩)) := by rw [← hA1, put_ne (by decide)]; exact e5_0
                  have e8_1 : A1.eval (.tmp 8) = (.int .i64 i) := by rw [← hA1, put_ne (by decide)]; exact e8_0
                  have e55_1 : A1.eval (.tmp 55) = (.slice (some ⟨bg, 0, none⟩) bn bc) := by rw [← hA1]; exact put_same (by rw [z0]; decide)
                  clear e5_0 e1_0 e8_0 z0
                  refine wpAnyH_take (i := 3) (v := (.pointer (some ⟨w.heap.size, 4, none⟩))) rfl (by kernel_rfl) (by kernel_rfl) (by kernel_rfl) (fun _ _ _ h => h) (Or.inl ⟨rfl, fun X hX => ?_⟩) hS0 ?_
                  · exact run_fieldAddr (Try.fieldX4 _ _) rfl e5_1 X
                  change wpAnyH _ _ _ _ _ _ _ (Act.put A1 (some 57) ((.pointer (some ⟨w.heap.size, 4, none⟩)))) _
                  generalize hA2 : Act.put A1 (some 57) ((.pointer (some ⟨w.heap.size, 4, none⟩))) = A2
                  have z2 : A2.tmps.size = 75 := by rw [← hA2, put_size]; exact z1
                  have e8_2 : A2.eval (.tmp 8) = (.int .i64 i) := by rw [← hA2, put_ne (by decide)]; exact e8_1
                  have e55_2 : A2.eval (.tmp 55) = (.slice (some ⟨bg, 0, none⟩) bn bc) := by rw [← hA2, put_ne (by decide)]; exact e55_1
                  have e57_2 : A2.eval (.tmp 57) = (.pointer (some ⟨w.heap.size, 4, none⟩)) := by rw [← hA2]; exact put_same (by rw [z1]; decide)
                  clear e5_1 e8_1 e55_1 z1
                  refine wpAnyH_take (i := 4) (v := (.slice (some ⟨cg, 0, none⟩) lC c4)) rfl (by kernel_rfl) (by kernel_rfl) (by kernel_rfl) (fun _ _ _ h => h) (Or.inl ⟨rfl, fun X hX => ?_⟩) hS0 ?_
                  · exact run_load (Try.load4 _ _ _ _ _ (cell_later hX b4)) rfl e57_2
                  change wpAnyH _ _ _ _ _ _ _ (Act.put A2 (some 58) ((.slice (some ⟨cg, 0, none⟩) lC c4))) _
                  generalize hA3 : Act.put A2 (some 58) ((.slice (some ⟨cg, 0, none⟩) lC c4)) = A3
                  have z3 : A3.tmps.size = 75 := by rw [← hA3, put_size]; exact z2
                  have e8_3 : A3.eval (.tmp 8) = (.int .i64 i) := by rw [← hA3, put_ne (by decide)]; exact e8_2
                  have e55_3 : A3.eval (.tmp 55) = (.slice (some ⟨bg, 0, none⟩) bn bc) := by rw [← hA3, put_ne (by decide)]; exact e55_2
                  have e58_3 : A3.eval (.tmp 58) = (.slice (some ⟨cg, 0, none⟩) lC c4) := by rw [← hA3]; exact put_same (by rw [z2]; decide)
                  clear e8_2 e55_2 e57_2 z2
                  refine wpAnyH_take (i := 5) (v := (.int .i64 i)) rfl (by kernel_rfl) (by kernel_rfl) (by kernel_rfl) (fun _ _ _ h => h) (Or.inl ⟨rfl, fun X hX => ?_⟩) hS0 ?_
                  · rw [BigFrame.run_move (.tmp 8) rfl X, e8_3]
                  change wpAnyH _ _ _ _ _ _ _ (Act.put A3 (some 59) ((.int .i64 i))) _
                  generalize hA4 : Act.put A3 (some 59) ((.int .i64 i)) = A4
                  have z4 : A4.tmps.size = 75 := by rw [← hA4, put_size]; exact z3
                  have e55_4 : A4.eval (.tmp 55) = (.slice (some ⟨bg, 0, none⟩) bn bc) := by rw [← hA4, put_ne (by decide)]; exact e55_3
                  have e58_4 : A4.eval (.tmp 58) = (.slice (some ⟨cg, 0, none⟩) lC c4) := by rw [← hA4, put_ne (by decide)]; exact e58_3
                  have e59_4 : A4.eval (.tmp 59) = (.int .i64 i) := by rw [← hA4]; exact put_same (by rw [z3]; decide)
                  clear e8_3 e55_3 e58_3 z3
                  refine wpAnyH_take (i := 6) (v := (.pointer (some ⟨cg, i * 10, none⟩))) rfl (by kernel_rfl) (by kernel_rfl) (by kernel_rfl) (fun _ _ _ h => h) (Or.inl ⟨rfl, fun X hX => ?_⟩) hS0 ?_
                  · exact run_index (Try.indexC _ _ _ _ hil) rfl e58_4 e59_4 X
                  change wpAnyH _ _ _ _ _ _ _ (Act.put A4 (some 60) ((.pointer (some ⟨cg, i * 10, none⟩)))) _
                  generalize hA5 : Act.put A4 (some 60) ((.pointer (some ⟨cg, i * 10, none⟩))) = A5
                  have z5 : A5.tmps.size = 75 := by rw [← hA5, put_size]; exact z4
                  have e55_5 : A5.eval (.tmp 55) = (.slice (some ⟨bg, 0, none⟩) bn bc) := by rw [← hA5, put_ne (by decide)]; exact e55_4
                  have e60_5 : A5.eval (.tmp 60) = (.pointer (some ⟨cg, i * 10, none⟩)) := by rw [← hA5]; exact put_same (by rw [z4]; decide)
                  clear e55_4 e58_4 e59_4 z4
                  refine wpAnyH_take (i := 7) (v := (.pointer (some ⟨cg, i * 10, none⟩))) rfl (by kernel_rfl) (by kernel_rfl) (by kernel_rfl) (fun _ _ _ h => h) (Or.inl ⟨rfl, fun X hX => ?_⟩) hS0 ?_
                  · exact run_fieldAddr (Try.fieldP' _ _) rfl e60_5 X
                  change wpAnyH _ _ _ _ _ _ _ (Act.put A5 (some 61) ((.pointer (some ⟨cg, i * 10, none⟩)))) _
                  generalize hA6 : Act.put A5 (some 61) ((.pointer (some ⟨cg, i * 10, none⟩))) = A6
                  have z6 : A6.tmps.size = 75 := by rw [← hA6, put_size]; exact z5
                  have e55_6 : A6.eval (.tmp 55) = (.slice (some ⟨bg, 0, none⟩) bn bc) := by rw [← hA6, put_ne (by decide)]; exact e55_5
                  have e61_6 : A6.eval (.tmp 61) = (.pointer (some ⟨cg, i * 10, none⟩)) := by rw [← hA6]; exact put_same (by rw [z5]; decide)
                  clear e55_5 e60_5 z5
                  refine wpAnyH_take (i := 8) (v := (.agg #[.int .i64 y0, .int .i64 y1, .string y2, .slice ya3 yl3 yc3, .slice ya4 yl4 yc4])) rfl (by kernel_rfl) (by kernel_rfl) (by kernel_rfl) (fun _ _ _ h => h) (Or.inl ⟨rfl, fun X hX => ?_⟩) hS0 ?_
                  · exact run_load (Try.loadX _ _ _ _ _ _ _ _ _ _ _ _ (cell_later hX f0) (cell_later hX f1) (cell_later hX f2) (cell_later hX f3) (cell_later hX f4)) rfl e61_6
                  change wpAnyH _ _ _ _ _ _ _ (Act.put A6 (some 62) ((.agg #[.int .i64 y0, .int .i64 y1, .string y2, .slice ya3 yl3 yc3, .slice ya4 yl4 yc4]))) _
                  generalize hA7 : Act.put A6 (some 62) ((.agg #[.int .i64 y0, .int .i64 y1, .string y2, .slice ya3 yl3 yc3, .slice ya4 yl4 yc4])) = A7
                  have z7 : A7.tmps.size = 75 := by rw [← hA7, put_size]; exact z6
                  have e55_7 : A7.eval (.tmp 55) = (.slice (some ⟨bg, 0, none⟩) bn bc) := by rw [← hA7, put_ne (by decide)]; exact e55_6
                  have e62_7 : A7.eval (.tmp 62) = (.agg #[.int .i64 y0, .int .i64 y1, .string y2, .slice ya3 yl3 yc3, .slice ya4 yl4 yc4]) := by rw [← hA7]; exact put_same (by rw [z6]; decide)
                  clear e55_6 e61_6 z6
                  refine wpAnyH_all (rs := [0]) (by kernel_rfl) (by simp) (fun i hi => ?_)
                  obtain rfl := List.mem_singleton.1 hi
                  refine wpOp_step rfl (fun K hK => ?_)
                  have hS1 : Below wx.heap.size wx ((World.drew wx).alloc (.cells #[] 9)) := (Below.refl _ _).drew.alloc (Nat.le_refl _) _
                  refine step_val rfl (run_buildNone (Try.buildNone _) rfl) (hK _ _ ⟨hS1, ?_⟩)
                  clear hK K
                  change wpAnyH _ _ _ _ _ _ _ (Act.put A7 (some 54) ((.slice (some ⟨wx.heap.size, 0, none⟩) 0 0))) _
                  generalize hA8 : Act.put A7 (some 54) ((.slice (some ⟨wx.heap.size, 0, none⟩) 0 0)) = A8
                  have z8 : A8.tmps.size = 75 := by rw [← hA8, put_size]; exact z7
                  have e55_8 : A8.eval (.tmp 55) = (.slice (some ⟨bg, 0, none⟩) bn bc) := by rw [← hA8, put_ne (by decide)]; exact e55_7
                  have e62_8 : A8.eval (.tmp 62) = (.agg #[.int .i64 y0, .int .i64 y1, .string y2, .slice ya3 yl3 yc3, .slice ya4 yl4 yc4]) := by rw [← hA8, put_ne (by decide)]; exact e62_7
                  have e54_8 : A8.eval (.tmp 54) = (.slice (some ⟨wx.heap.size, 0, none⟩) 0 0) := by rw [← hA8]; exact put_same (by rw [z7]; decide)
                  clear e55_7 e62_7 z7
                  refine wpAnyH_all (rs := [2]) (by kernel_rfl) (by simp) (fun i hi => ?_)
                  obtain rfl := List.mem_singleton.1 hi
                  refine wpOp_step rfl (fun K hK => ?_)
                  have hn0 : ((World.drew wx).alloc (.cells #[] 9)).ownsRow wx.heap.size 9 1 (.slice (some ⟨wx.heap.size, 0, none⟩) 0 0) 0 [] := ⟨rfl, .inr ⟨wx.heap.size, 0, #[], rfl, Nat.le_refl _, heap_alloc_new (World.drew wx) _, Nat.le_refl _, Nat.zero_le _, rfl, rfl⟩⟩
                  have hbr := (HST.out.row.kept (hS1.block _ HST.out.row.lt)).cells
                  refine step_append_own' rfl (.tmp 54) (.tmp 55) 29 rfl wx.heap.size 9 s0 (.string ⟨#[]⟩) 1 16 Try.underlying29 hs0 hs1 hs2 hs3 rfl (by decide) _ 0 [] e54_8 hn0 ⟨bg, 0, none⟩ bn bc (but.map Value.string) e55_8 (by rw [List.length_map, Nat.mul_one]; exact HBN.out) hbr (by intro u hu; obtain ⟨s, _, rfl⟩ := List.mem_map.1 hu; rfl) (by unfold maxLen; omega) (by omega) hS1.size ?_
                  intro v1 X1 hown1 hgrow1 hnil1 hat1
                  have hX1 : Below wx.heap.size wx X1 := hS1.trans ⟨hgrow1.os, hgrow1.tape, hgrow1.output, hgrow1.size, fun k hk => hgrow1.block k (Nat.lt_of_lt_of_le hk hS1.size) (by simp [Value.ownBlock]; omega)⟩
                  obtain ⟨g1, c1, rfl, hg1⟩ := row_some hown1 (fun e => by have := hnil1.1 e; cases this.1)
                  refine hK _ _ ⟨hX1, ?_⟩
                  clear hK K hn0 hbr hgrow1 hnil1 hat1
                  change wpAnyH _ _ _ _ _ _ _ (Act.put A8 (some 56) ((.slice (some ⟨g1, 0, none⟩) (0 + bn) c1))) _
                  generalize hA9 : Act.put A8 (some 56) ((.slice (some ⟨g1, 0, none⟩) (0 + bn) c1)) = A9
                  have z9 : A9.tmps.size = 75 := by rw [← hA9, put_size]; exact z8
                  have e62_9 : A9.eval (.tmp 62) = (.agg #[.int .i64 y0, .int .i64 y1, .string y2, .slice ya3 yl3 yc3, .slice ya4 yl4 yc4]) := by rw [← hA9, put_ne (by decide)]; exact e62_8
                  have e56_9 : A9.eval (.tmp 56) = (.slice (some ⟨g1, 0, none⟩) (0 + bn) c1) := by rw [← hA9]; exact put_same (by rw [z8]; decide)
                  clear e55_8 e62_8 e54_8 z8
                  refine wpAnyH_all (rs := [9]) (by kernel_rfl) (by simp) (fun i hi => ?_)
                  obtain rfl := List.mem_singleton.1 hi
                  refine wpOp_step rfl (fun K hK => ?_)
                  refine step_call rfl Try.enterVars rfl #[(.agg #[.int .i64 y0, .int .i64 y1, .string y2, .slice ya3 yl3 yc3, .slice ya4 yl4 yc4])] (by simp only [List.map_toArray, List.map_cons, List.map_nil]; rw [e62_9]) ?_
                  refine (HVS.out X1 hX1).mono ?_
                  rintro e X2 ⟨g2, n2, c2, rfl, HR2, hb2⟩
                  have hX2 : Below wx.heap.size wx X2 := hX1.trans (hb2.mono hX1.size)
                  refine ⟨_, rfl, hK _ _ ⟨hX2, ?_⟩⟩
                  clear hK K
                  change wpAnyH _ _ _ _ _ _ _ (Act.put A9 (some 63) ((.slice (some ⟨g2, 0, none⟩) n2 c2))) _
                  generalize hA10 : Act.put A9 (some 63) ((.slice (some ⟨g2, 0, none⟩) n2 c2)) = A10
                  have z10 : A10.tmps.size = 75 := by rw [← hA10, put_size]; exact z9
                  have e56_10 : A10.eval (.tmp 56) = (.slice (some ⟨g1, 0, none⟩) (0 + bn) c1) := by rw [← hA10, put_ne (by decide)]; exact e56_9
                  have e63_10 : A10.eval (.tmp 63) = (.slice (some ⟨g2, 0, none⟩) n2 c2) := by rw [← hA10]; exact put_same (by rw [z9]; decide)
                  clear e62_9 e56_9 z9
                  refine wpAnyH_all (rs := [10]) (by kernel_rfl) (by simp) (fun i hi => ?_)
                  obtain rfl := List.mem_singleton.1 hi
                  refine wpOp_step rfl (fun K hK => ?_)
                  have hown2 := rowKept hown1 (w' := X2) (fun k hk => hb2.block k (own_blk hown1 k hk).2)
                  obtain ⟨hn2, hcl2⟩ := HR2.out.cells
                  have hg12 : g1 ≠ g2 := by have := (own_blk hown1 g1 rfl).2; have := (own_blk HR2.out g2 rfl).1; omega
                  refine step_append_own' rfl (.tmp 56) (.tmp 63) 29 rfl wx.heap.size 9 s0 (.string ⟨#[]⟩) 1 16 Try.underlying29 hs0 hs1 hs2 hs3 rfl (by decide) _ (0 + bn) _ e56_10 hown2 ⟨g2, 0, none⟩ n2 c2 (VP.map Value.string) e63_10 (by rw [List.length_map, Nat.mul_one]; exact hn2.symm) hcl2 (by intro u hu; obtain ⟨s, _, rfl⟩ := List.mem_map.1 hu; rfl) (by unfold maxLen; omega) (by omega) hX2.size ?_
                  intro v3 X3 hown3 hgrow3 hnil3 hat3
                  have hX3 : Below wx.heap.size wx X3 := hX2.trans ⟨hgrow3.os, hgrow3.tape, hgrow3.output, hgrow3.size, fun k hk => hgrow3.block k (Nat.lt_of_lt_of_le hk hX2.size) (by simp [Value.ownBlock]; omega)⟩
                  obtain ⟨g3, c3', rfl, hg3⟩ := row_some hown3 (fun e => by have := hnil3.1 e; cases this.1)
                  have HFI : Hid (0 + bn + n2 = (but ++ VP).length ∧ RowAt X3 g3 c3' (but ++ VP) ∧ Below wx.heap.size wx X3 ∧ wx.heap.size ≤ g3) := by
                    have e1 : 0 + bn + n2 = (but ++ VP).length := by rw [List.length_append, hn2]; have := HBN.out; omega
                    refine ⟨e1, ?_, hX3, hg3⟩
                    have := row_low hown3 (Nat.zero_le _)
                    unfold RowAt
                    rw [← e1, List.map_append]
                    simpa using this
                  refine hK _ _ ⟨hX3, ?_⟩
                  clear hK K hown1 hown2 hown3 hgrow3 hnil3 hat3 hcl2 HR2
                  change wpAnyH _ _ _ _ _ _ _ (Act.put A10 (some 64) ((.slice (some ⟨g3, 0, none⟩) (0 + bn + n2) c3'))) _
                  generalize hA11 : Act.put A10 (some 64) ((.slice (some ⟨g3, 0, none⟩) (0 + bn + n2) c3')) = A11
                  have z11 : A11.tmps.size = 75 := by rw [← hA11, put_size]; exact z10
                  have e64_11 : A11.eval (.tmp 64) = (.slice (some ⟨g3, 0, none⟩) (0 + bn + n2) c3') := by rw [← hA11]; exact put_same (by rw [z10]; decide)
                  clear e56_10 e63_10 z10
                  refine wpAnyH_take (i := 11) (v := (.slice (some ⟨g3, 0, none⟩) (0 + bn + n2) c3')) rfl (by kernel_rfl) (by kernel_rfl) (by kernel_rfl) (fun _ _ _ h => h) (Or.inl ⟨rfl, fun X hX => ?_⟩) hX3 ?_
                  · rw [BigFrame.run_assign (.tmp 64) rfl X, e64_11]
                  change wpAnyH _ _ _ _ _ _ _ (Act.put A11 (some 9) _) _
                  generalize hA12 : Act.put A11 (some 9) _ = A12
                  refine wpAnyH_done (by kernel_rfl) ?_ _
                  clear e64_11 z11
                  subst hA12 hA11 hA10 hA9 hA8 hA7 hA6 hA5 hA4 hA3 hA2 hA1 hA0
                  simp only [Act.put, List.setIfInBounds_toArray, List.set_cons_zero, List.set_cons_succ]
                  go_wp2_with fail
                  go_meet
                  case rel => exact ⟨_, _, _, rfl, HFI⟩

                case rest =>
                  obtain ⟨ig, n9, c9, rfl, HV9⟩ := hcut
                  obtain ⟨wy, hwy⟩ : ∃ wy, wy = wc := ⟨_, rfl⟩
                  rw [← hwy] at HV9 ⊢
                  have hB := HV9.out.2.2.1
                  have b4' := cell_later hB b4
                  have k0' := cell_later hB k0
                  have k1' := cell_later hB k1
                  have k2' := cell_later hB k2
                  have k3' := cell_later hB k3
                  have k4' := cell_later hB k4
                  have hC := HCX.out wy hB ig c9 HV9.out.2.1 HV9.out.2.2.2
                  rw [← HV9.out.1] at hC
                  clear HCX HVS HST b4 f0 f1 f2 f3 f4 k0 k1 k2 k3 k4 hwy hbx hB
                  go_wp2_with fail
                  refine hC.mono ?_
                  clear hC b4' k0' k1' k2' k3' k4' HV9
                  rintro _ w' ⟨g', n', c', rfl, HQ⟩
                  go_wp2_with fail
                  go_roundw
                  case rel => exact ⟨i + 1, g', n', c', by omega, by go_num, rfl, HQ.out⟩
                  case measure => simp [intOf]; omega
              · obtain rfl : i = lC := by omega
                have hil' : decide ((i : Int) < (i : Int)) = false := by simp
                have HX : Hid (∃ g' n' c', (Value.slice (some ⟨g, 0, none⟩) n c) = .slice (some ⟨g', 0, none⟩) n' c' ∧ (n' = FIN.length ∧ RowAt wx g' c' FIN ∧ Grew w wx og g')) := by
                  have hq := HJ.out
                  rw [← HLC.out, List.take_length, HFIN.out] at hq
                  exact ⟨g, n, c, rfl, hq.1, hq.2.1, HGB.out.trans hq.2.2.grew⟩
                clear HJ hbx HCL
                go_wp2_with fail
                go_ret
                obtain ⟨g', n', c', e1, e2⟩ := HX.out
                exact ⟨g, n, c, rfl, by simp only [Value.slice.injEq, Option.some.injEq, Addr.mk.injEq, and_true] at e1; obtain ⟨rfl, rfl, rfl⟩ := e1; exact e2⟩

  · have hK' : (KK == 3) = false := by simpa using hK
    have hA : ACC = out := by rw [← hACC]; exact tellX_no fun e => hK e.1
    have HR1 : Hid (on = ((ES.take 0).foldl (fun o x => freeX d but o x) ACC).length ∧ RowAt B0 og oc ((ES.take 0).foldl (fun o x => freeX d but o x) ACC)) := by
      rw [List.take_zero, List.foldl_nil, hA]
      exact ⟨HON.out.symm, HR0.out⟩
    have HS1 : Hid (Stays B0 B0 w.heap.size og og #[.int .i64 KK, .int .i64 N, .string S, .slice a3 lE c3, .slice a4 lC c4] bg bc but fp) := HS0.out
    rw [hB0] at cK
    clear hHb hHo cS HR0 HS0 hA hACC hK HON hB0
    go_enter Try.func37, Try.ntmps37
    go_wp2_with fail
    rw [← HB0.out]
    clear cK
    obtain ⟨g1, hg1⟩ : ∃ g, g = og := ⟨_, rfl⟩
    obtain ⟨n1, hn1⟩ : ∃ n, n = on := ⟨_, rfl⟩
    obtain ⟨c1, hc1⟩ : ∃ c, c = oc := ⟨_, rfl⟩
    go_loopw [0, 7] (fun v i wx => ∃ (j g n c : Nat), j ≤ lE ∧ i = .int .i64 j ∧ v = .slice (some ⟨g, 0, none⟩) n c ∧ Hid (n = ((ES.take j).foldl (fun o x => freeX d but o x) ACC).length ∧ RowAt wx g c ((ES.take j).foldl (fun o x => freeX d but o x) ACC) ∧ Stays B0 wx w.heap.size og g #[.int .i64 KK, .int .i64 N, .string S, .slice a3 lE c3, .slice a4 lC c4] bg bc but fp)) (fun _ i _ => lE - (intOf i).toNat)
    case atStart => exact ⟨0, og, on, oc, Nat.zero_le _, rfl, rfl, HR1.out.1, HR1.out.2, HS1.out⟩
    case round =>
      clear HR1 HS1
      rename World => wx
      obtain ⟨j, g, n, c, hj, rfl, rfl, HJ⟩ := hrel
      have hbx := HJ.out.2.2.box
      have b3 : wx.cell? ⟨w.heap.size, 3, none⟩ = some (.slice a3 lE c3) := by rw [cell_of_row wx _ 3 _ _ _ hbx]; rfl
      by_cases hjl : j < lE
      · obtain ⟨e, he⟩ : ∃ e, ES[j]? = some e := ⟨_, List.getElem?_eq_getElem (by rw [HLE.out]; exact hjl)⟩
        obtain ⟨b, vs, f, ha3, hbm, ⟨y0, y1, y2, ya3, yl3, yc3, ya4, yl4, yc4, rfl⟩, hcl, hex, hsub⟩ := HEL.out j e he
        rw [ha3] at b3
        clear ha3
        have hwb := HW.out.1 wx HJ.out.2.2.blk
        have f0 : wx.cell? ⟨b, j * 5, none⟩ = some (.int .i64 y0) := hcl wx (hwb b hbm) 0 _ rfl
        have f1 : wx.cell? ⟨b, j * 5 + 1, none⟩ = some (.int .i64 y1) := hcl wx (hwb b hbm) 1 _ rfl
        have f2 : wx.cell? ⟨b, j * 5 + 2, none⟩ = some (.string y2) := hcl wx (hwb b hbm) 2 _ rfl
        have f3 : wx.cell? ⟨b, j * 5 + 3, none⟩ = some (.slice ya3 yl3 yc3) := hcl wx (hwb b hbm) 3 _ rfl
        have f4 : wx.cell? ⟨b, j * 5 + 4, none⟩ = some (.slice ya4 yl4 yc4) := hcl wx (hwb b hbm) 4 _ rfl
        have hst := szRow_take (f := szX d) he
        have hfl := foldE_len (b := but) (ES.take j) ACC
        have hC := HI.out _ e f wx g c _ bg bc but (ExO.lasts d _ _ _ _ _ hex fun k hk => hwb k (hsub k hk)) (fun k hk => Nat.lt_of_lt_of_le (HW.out.2 k (hsub k hk)) HJ.out.2.2.grew.grown.size) (by have := HZ.out; omega) HJ.out.2.1 HJ.out.2.2.row (fun hm => HJ.out.2.2.far.2.2 (hsub g hm)) HJ.out.2.2.far.2.1 (by have := HZ.out; have := HBD.out; omega) (by have := HZ.out; have := HBD.out; omega)
        rw [← HJ.out.1, HBN.out] at hC
        have hjl' : (j : Int) < (lE : Int) := by omega
        have HNX : Hid (∀ g' n' c' w', n' = (freeX d but ((ES.take j).foldl (fun o x => freeX d but o x) ACC) e).length ∧ RowAt w' g' c' (freeX d but ((ES.take j).foldl (fun o x => freeX d but o x) ACC) e) ∧ Grew wx w' g g' → n' = ((ES.take (j + 1)).foldl (fun o x => freeX d but o x) ACC).length ∧ RowAt w' g' c' ((ES.take (j + 1)).foldl (fun o x => freeX d but o x) ACC) ∧ Stays B0 w' w.heap.size og g' #[.int .i64 KK, .int .i64 N, .string S, .slice a3 lE c3, .slice a4 lC c4] bg bc but fp) := fun g' n' c' w' hq => by
          rw [foldE_next he]
          exact ⟨hq.1, hq.2.1, HJ.out.2.2.on hq.2.2 HW.out.2⟩
        clear hcl hex hsub he hwb hst hfl hbx hbm
        go_wp2_with fail
        refine hC.mono ?_
        clear hC f0 f1 f2 f3 f4 b3 HJ
        rintro _ w' ⟨g', n', c', rfl, HQ⟩
        have HN2 : Hid _ := HNX.out g' n' c' w' HQ.out
        clear HQ HNX
        go_wp2_with fail
        go_roundw
        case rel => exact ⟨j + 1, g', n', c', by omega, by go_num, rfl, HN2.out⟩
        case measure => simp [intOf]; omega
      · obtain rfl : j = lE := by omega
        have hjl' : decide ((j : Int) < (j : Int)) = false := by simp
        have HJ2 : Hid (n = AE.length ∧ RowAt wx g c AE ∧ Stays B0 wx w.heap.size og g #[.int .i64 KK, .int .i64 N, .string S, .slice a3 j c3, .slice a4 lC c4] bg bc but fp) := by
          have hq := HJ.out
          rw [← HLE.out, List.take_length, HAE.out] at hq
          rw [← HLE.out]
          exact hq
        clear HJ hbx HEL
        go_wp2_with fail
        clear b3 hjl hjl'
        rename World => wz
        go_loopw [0, 8] (fun v i wx => ∃ (i' g n c : Nat), i' ≤ lC ∧ i = .int .i64 i' ∧ v = .slice (some ⟨g, 0, none⟩) n c ∧ Hid (n = ((CS.take i').foldl (fun o c => freeX d (but ++ vars d c.1) o c.2) AE).length ∧ RowAt wx g c ((CS.take i').foldl (fun o c => freeX d (but ++ vars d c.1) o c.2) AE) ∧ Stays B0 wx w.heap.size og g #[.int .i64 KK, .int .i64 N, .string S, .slice a3 j c3, .slice a4 lC c4] bg bc but fp)) (fun _ i _ => lC - (intOf i).toNat)
        case atStart => exact ⟨0, g, n, c, Nat.zero_le _, rfl, rfl, HJ2.out⟩
        case round =>
          clear HJ2
          rename World => wx
          obtain ⟨i, g, n, c, hi, rfl, rfl, HJ⟩ := hrel
          have hbx := HJ.out.2.2.box
          have b4 : wx.cell? ⟨w.heap.size, 4, none⟩ = some (.slice a4 lC c4) := by rw [cell_of_row wx _ 4 _ _ _ hbx]; rfl
          by_cases hil : i < lC
          · obtain ⟨⟨P, X⟩, he⟩ : ∃ e, CS[i]? = some e := ⟨_, List.getElem?_eq_getElem (by rw [HLC.out]; exact hil)⟩
            obtain ⟨cg, ps, us, fP, fX, ha4, hbm, ⟨y0, y1, y2, ya3, yl3, yc3, ya4, yl4, yc4, rfl⟩, ⟨x0, x1, x2, xa3, xl3, xc3, xa4, xl4, xc4, rfl⟩, hcl, hcl2, hexP, hexX, hsub⟩ := HCL.out i _ he
            rw [ha4] at b4
            clear ha4
            have hwb := HW.out.1 wx HJ.out.2.2.blk
            have f0 : wx.cell? ⟨cg, i * 10, none⟩ = some (.int .i64 y0) := hcl wx (hwb cg hbm) 0 _ rfl
            have f1 : wx.cell? ⟨cg, i * 10 + 1, none⟩ = some (.int .i64 y1) := hcl wx (hwb cg hbm) 1 _ rfl
            have f2 : wx.cell? ⟨cg, i * 10 + 2, none⟩ = some (.string y2) := hcl wx (hwb cg hbm) 2 _ rfl
            have f3 : wx.cell? ⟨cg, i * 10 + 3, none⟩ = some (.slice ya3 yl3 yc3) := hcl wx (hwb cg hbm) 3 _ rfl
            have f4 : wx.cell? ⟨cg, i * 10 + 4, none⟩ = some (.slice ya4 yl4 yc4) := hcl wx (hwb cg hbm) 4 _ rfl
            have k0 : wx.cell? ⟨cg, i * 10 + 5, none⟩ = some (.int .i64 x0) := hcl2 wx (hwb cg hbm) 0 _ rfl
            have k1 : wx.cell? ⟨cg, i * 10 + 5 + 1, none⟩ = some (.int .i64 x1) := hcl2 wx (hwb cg hbm) 1 _ rfl
            have k2 : wx.cell? ⟨cg, i * 10 + 5 + 2, none⟩ = some (.string x2) := hcl2 wx (hwb cg hbm) 2 _ rfl
            have k3 : wx.cell? ⟨cg, i * 10 + 5 + 3, none⟩ = some (.slice xa3 xl3 xc3) := hcl2 wx (hwb cg hbm) 3 _ rfl
            have k4 : wx.cell? ⟨cg, i * 10 + 5 + 4, none⟩ = some (.slice xa4 xl4 xc4) := hcl2 wx (hwb cg hbm) 4 _ rfl
            have hst := szRow_take (f := ClF (szX d)) he
            have hcf : ClF (szX d) (P, X) = szX d P + szX d X := rfl
            have hfl := foldC_len (b := but) (CS.take i) AE
            have hvl := vars_len d P
            have HVS : Hid (∀ V, Below wx.heap.size wx V → _) := fun V hV => specVars_any d _ P V (ExR.lasts d _ _ _ _ (ExO.reads d _ _ _ _ (ExO.lasts d _ _ _ _ _ hexP fun k hk => hwb k (hsub k (List.mem_append_left _ hk)))) hV) (by have := HZ.out; omega)
            obtain ⟨VP, hVP⟩ : ∃ l, vars d P = l := ⟨_, rfl⟩
            have HVP : Hid (vars d P = VP) := hVP
            rw [hVP] at HVS hvl
            have hvl' : VP.length ≤ 1048577 := by have := HZ.out; omega
            have HST : Hid (Stays B0 wx w.heap.size og g #[.int .i64 KK, .int .i64 N, .string S, .slice a3 j c3, .slice a4 lC c4] bg bc but fp) := HJ.out.2.2
            have HCX : Hid (∀ V : World, Below wx.heap.size wx V → ∀ ig ic, RowAt V ig ic (but ++ VP) → wx.heap.size ≤ ig → Calls Try.prog 37 #[.slice (some ⟨g, 0, none⟩) n c, .slice (some ⟨ig, 0, none⟩) (but ++ VP).length ic, .agg #[.int .i64 x0, .int .i64 x1, .string x2, .slice xa3 xl3 xc3, .slice xa4 xl4 xc4]] V fun e w' => ∃ g' n' c', e = .returned (.slice (some ⟨g', 0, none⟩) n' c') ∧ Hid (n' = ((CS.take (i + 1)).foldl (fun o c => freeX d (but ++ vars d c.1) o c.2) AE).length ∧ RowAt w' g' c' ((CS.take (i + 1)).foldl (fun o c => freeX d (but ++ vars d c.1) o c.2) AE) ∧ Stays B0 w' w.heap.size og g' #[.int .i64 KK, .int .i64 N, .string S, .slice a3 j c3, .slice a4 lC c4] bg bc but fp)) := fun V hV ig ic hrow hig => by
              have hgl := HJ.out.2.1.lt
              have hC := HI.out _ X fX V g c _ ig ic (but ++ VP) (ExO.lasts d _ _ _ _ _ hexX fun k hk => (hV.block k (Nat.lt_of_lt_of_le (HW.out.2 k (hsub k (List.mem_append_right _ hk))) HJ.out.2.2.grew.grown.size)).trans (hwb k (hsub k (List.mem_append_right _ hk)))) (fun k hk => Nat.lt_of_lt_of_le (HW.out.2 k (hsub k (List.mem_append_right _ hk))) (Nat.le_trans HJ.out.2.2.grew.grown.size hV.size)) (by have := HZ.out; omega) (HJ.out.2.1.kept (hV.block g hgl)) hrow (fun hm => HJ.out.2.2.far.2.2 (hsub g (List.mem_append_right _ hm))) (by omega) (by have := HZ.out; have := HBD.out; have := HAL.out; omega) (by rw [List.length_append]; have := HZ.out; have := HBD.out; have := HBN.out; omega)
              rw [← HJ.out.1] at hC
              refine hC.mono ?_
              rintro e w' ⟨g', n', c', rfl, HQ⟩
              refine ⟨g', n', c', rfl, ?_⟩
              rw [foldC_next he]
              simp only [HVP.out]
              exact ⟨HQ.out.1, HQ.out.2.1, (HJ.out.2.2.later hV HW.out.2).on HQ.out.2.2 HW.out.2⟩
            have hil' : (i : Int) < (lC : Int) := by omega
            clear hcl hcl2 hexP hexX hsub he hwb hst hfl hbm hcf hvl HJ
            go_wp2_with fail
            go_cut [9] (fun v wy => ∃ ig n9 c9 : Nat, v = .slice (some ⟨ig, 0, none⟩) n9 c9 ∧ Hid (n9 = (but ++ VP).length ∧ RowAt wy ig c9 (but ++ VP) ∧ Below wx.heap.size wx wy ∧ wx.heap.size ≤ ig))
            case first =>
              refine wp_region_held (S := fun X => Below wx.heap.size wx X) (by kernel_rfl) ?_
              change wpAnyH _ _ _ _ _ _ _ _ (World.drew _)
              have hS0 : Below wx.heap.size wx (World.drew wx) := (Below.refl _ _).drew
              generalize hA0 : (Act.mk _ _) = A0
              have z0 : A0.tmps.size = 75 := by rw [← hA0]; rfl
              have e5_0 : A0.eval (.tmp 5) = (.pointer (some ⟨w.heap.size, 0, none⟩)) := by rw [← hA0]; rfl
              have e1_0 : A0.eval (.tmp 1) = (.slice (some ⟨bg, 0, none⟩) bn bc) := by rw [← hA0]; rfl
              have e8_0 : A0.eval (.tmp 8) = (.int .i64 i) := by rw [← hA0]; rfl
              refine wpAnyH_take (i := 1) (v := (.slice (some ⟨bg, 0, none⟩) bn bc)) rfl (by kernel_rfl) (by kernel_rfl) (by kernel_rfl) (fun _ _ _ h => h) (Or.inl ⟨rfl, fun X hX => ?_⟩) hS0 ?_
              · rw [BigFrame.run_move (.tmp 1) rfl X, e1_0]
              change wpAnyH _ _ _ _ _ _ _ (Act.put A0 (some 55) ((.slice (some ⟨bg, 0, none⟩) bn bc))) _
              generalize hA1 : Act.put A0 (some 55) ((.slice (some ⟨bg, 0, none⟩) bn bc)) = A1
              have z1 : A1.tmps.size = 75 := by rw [← hA1, put_size]; exact z0
              have e5_1 : A1.eval (.tmp 5) = (.pointer (some ⟨w.heap.size, 0, none⟩)) := by rw [← hA1, put_ne (by decide)]; exact e5_0
              have e8_1 : A1.eval (.tmp 8) = (.int .i64 i) := by rw [← hA1, put_ne (by decide)]; exact e8_0
              have e55_1 : A1.eval (.tmp 55) = (.slice (some ⟨bg, 0, none⟩) bn bc) := by rw [← hA1]; exact put_same (by rw [z0]; decide)
              clear e5_0 e1_0 e8_0 z0
              refine wpAnyH_take (i := 3) (v := (.pointer (some ⟨w.heap.size, 4, none⟩))) rfl (by kernel_rfl) (by kernel_rfl) (by kernel_rfl) (fun _ _ _ h => h) (Or.inl ⟨rfl, fun X hX => ?_⟩) hS0 ?_
              · exact run_fieldAddr (Try.fieldX4 _ _) rfl e5_1 X
              change wpAnyH _ _ _ _ _ _ _ (Act.put A1 (some 57) ((.pointer (some ⟨w.heap.size, 4, none⟩)))) _
              generalize hA2 : Act.put A1 (some 57) ((.pointer (some ⟨w.heap.size, 4, none⟩))) = A2
              have z2 : A2.tmps.size = 75 := by rw [← hA2, put_size]; exact z1
              have e8_2 : A2.eval (.tmp 8) = (.int .i64 i) := by rw [← hA2, put_ne (by decide)]; exact e8_1
              have e55_2 : A2.eval (.tmp 55) = (.slice (some ⟨bg, 0, none⟩) bn bc) := by rw [← hA2, put_ne (by decide)]; exact e55_1
              have e57_2 : A2.eval (.tmp 57) = (.pointer (some ⟨w.heap.size, 4, none⟩)) := by rw [← hA2]; exact put_same (by rw [z1]; decide)
              clear e5_1 e8_1 e55_1 z1
              refine wpAnyH_take (i := 4) (v := (.slice (some ⟨cg, 0, none⟩) lC c4)) rfl (by kernel_rfl) (by kernel_rfl) (by kernel_rfl) (fun _ _ _ h => h) (Or.inl ⟨rfl, fun X hX => ?_⟩) hS0 ?_
              · exact run_load (Try.load4 _ _ _ _ _ (cell_later hX b4)) rfl e57_2
              change wpAnyH _ _ _ _ _ _ _ (Act.put A2 (some 58) ((.slice (some ⟨cg, 0, none⟩) lC c4))) _
              generalize hA3 : Act.put A2 (some 58) ((.slice (some ⟨cg, 0, none⟩) lC c4)) = A3
              have z3 : A3.tmps.size = 75 := by rw [← hA3, put_size]; exact z2
              have e8_3 : A3.eval (.tmp 8) = (.int .i64 i) := by rw [← hA3, put_ne (by decide)]; exact e8_2
              have e55_3 : A3.eval (.tmp 55) = (.slice (some ⟨bg, 0, none⟩) bn bc) := by rw [← hA3, put_ne (by decide)]; exact e55_2
              have e58_3 : A3.eval (.tmp 58) = (.slice (some ⟨cg, 0, none⟩) lC c4) := by rw [← hA3]; exact put_same (by rw [z2]; decide)
              clear e8_2 e55_2 e57_2 z2
              refine wpAnyH_take (i := 5) (v := (.int .i64 i)) rfl (by kernel_rfl) (by kernel_rfl) (by kernel_rfl) (fun _ _ _ h => h) (Or.inl ⟨rfl, fun X hX => ?_⟩) hS0 ?_
              · rw [BigFrame.run_move (.tmp 8) rfl X, e8_3]
              change wpAnyH _ _ _ _ _ _ _ (Act.put A3 (some 59) ((.int .i64 i))) _
              generalize hA4 : Act.put A3 (some 59) ((.int .i64 i)) = A4
              have z4 : A4.tmps.size = 75 := by rw [← hA4, put_size]; exact z3
              have e55_4 : A4.eval (.tmp 55) = (.slice (some ⟨bg, 0, none⟩) bn bc) := by rw [← hA4, put_ne (by decide)]; exact e55_3
              have e58_4 : A4.eval (.tmp 58) = (.slice (some ⟨cg, 0, none⟩) lC c4) := by rw [← hA4, put_ne (by decide)]; exact e58_3
              have e59_4 : A4.eval (.tmp 59) = (.int .i64 i) := by rw [← hA4]; exact put_same (by rw [z3]; decide)
              clear e8_3 e55_3 e58_3 z3
              refine wpAnyH_take (i := 6) (v := (.pointer (some ⟨cg, i * 10, none⟩))) rfl (by kernel_rfl) (by kernel_rfl) (by kernel_rfl) (fun _ _ _ h => h) (Or.inl ⟨rfl, fun X hX => ?_⟩) hS0 ?_
              · exact run_index (Try.indexC _ _ _ _ hil) rfl e58_4 e59_4 X
              change wpAnyH _ _ _ _ _ _ _ (Act.put A4 (some 60) ((.pointer (some ⟨cg, i * 10, none⟩)))) _
              generalize hA5 : Act.put A4 (some 60) ((.pointer (some ⟨cg, i * 10, none⟩))) = A5
              have z5 : A5.tmps.size = 75 := by rw [← hA5, put_size]; exact z4
              have e55_5 : A5.eval (.tmp 55) = (.slice (some ⟨bg, 0, none⟩) bn bc) := by rw [← hA5, put_ne (by decide)]; exact e55_4
              have e60_5 : A5.eval (.tmp 60) = (.pointer (some ⟨cg, i * 10, none⟩)) := by rw [← hA5]; exact put_same (by rw [z4]; decide)
              clear e55_4 e58_4 e59_4 z4
              refine wpAnyH_take (i := 7) (v := (.pointer (some ⟨cg, i * 10, none⟩))) rfl (by kernel_rfl) (by kernel_rfl) (by kernel_rfl) (fun _ _ _ h => h) (Or.inl ⟨rfl, fun X hX => ?_⟩) hS0 ?_
              · exact run_fieldAddr (Try.fieldP' _ _) rfl e60_5 X
              change wpAnyH _ _ _ _ _ _ _ (Act.put A5 (some 61) ((.pointer (some ⟨cg, i * 10, none⟩)))) _
              generalize hA6 : Act.put A5 (some 61) ((.pointer (some ⟨cg, i * 10, none⟩))) = A6
              have z6 : A6.tmps.size = 75 := by rw [← hA6, put_size]; exact z5
              have e55_6 : A6.eval (.tmp 55) = (.slice (some ⟨bg, 0, none⟩) bn bc) := by rw [← hA6, put_ne (by decide)]; exact e55_5
              have e61_6 : A6.eval (.tmp 61) = (.pointer (some ⟨cg, i * 10, none⟩)) := by rw [← hA6]; exact put_same (by rw [z5]; decide)
              clear e55_5 e60_5 z5
              refine wpAnyH_take (i := 8) (v := (.agg #[.int .i64 y0, .int .i64 y1, .string y2, .slice ya3 yl3 yc3, .slice ya4 yl4 yc4])) rfl (by kernel_rfl) (by kernel_rfl) (by kernel_rfl) (fun _ _ _ h => h) (Or.inl ⟨rfl, fun X hX => ?_⟩) hS0 ?_
              · exact run_load (Try.loadX _ _ _ _ _ _ _ _ _ _ _ _ (cell_later hX f0) (cell_later hX f1) (cell_later hX f2) (cell_later hX f3) (cell_later hX f4)) rfl e61_6
              change wpAnyH _ _ _ _ _ _ _ (Act.put A6 (some 62) ((.agg #[.int .i64 y0, .int .i64 y1, .string y2, .slice ya3 yl3 yc3, .slice ya4 yl4 yc4]))) _
              generalize hA7 : Act.put A6 (some 62) ((.agg #[.int .i64 y0, .int .i64 y1, .string y2, .slice ya3 yl3 yc3, .slice ya4 yl4 yc4])) = A7
              have z7 : A7.tmps.size = 75 := by rw [← hA7, put_size]; exact z6
              have e55_7 : A7.eval (.tmp 55) = (.slice (some ⟨bg, 0, none⟩) bn bc) := by rw [← hA7, put_ne (by decide)]; exact e55_6
              have e62_7 : A7.eval (.tmp 62) = (.agg #[.int .i64 y0, .int .i64 y1, .string y2, .slice ya3 yl3 yc3, .slice ya4 yl4 yc4]) := by rw [← hA7]; exact put_same (by rw [z6]; decide)
              clear e55_6 e61_6 z6
              refine wpAnyH_all (rs := [0]) (by kernel_rfl) (by simp) (fun i hi => ?_)
              obtain rfl := List.mem_singleton.1 hi
              refine wpOp_step rfl (fun K hK => ?_)
              have hS1 : Below wx.heap.size wx ((World.drew wx).alloc (.cells #[] 9)) := (Below.refl _ _).drew.alloc (Nat.le_refl _) _
              refine step_val rfl (run_buildNone (Try.buildNone _) rfl) (hK _ _ ⟨hS1, ?_⟩)
              clear hK K
              change wpAnyH _ _ _ _ _ _ _ (Act.put A7 (some 54) ((.slice (some ⟨wx.heap.size, 0, none⟩) 0 0))) _
              generalize hA8 : Act.put A7 (some 54) ((.slice (some ⟨wx.heap.size, 0, none⟩) 0 0)) = A8
              have z8 : A8.tmps.size = 75 := by rw [← hA8, put_size]; exact z7
              have e55_8 : A8.eval (.tmp 55) = (.slice (some ⟨bg, 0, none⟩) bn bc) := by rw [← hA8, put_ne (by decide)]; exact e55_7
              have e62_8 : A8.eval (.tmp 62) = (.agg #[.int .i64 y0, .int .i64 y1, .string y2, .slice ya3 yl3 yc3, .slice ya4 yl4 yc4]) := by rw [← hA8, put_ne (by decide)]; exact e62_7
              have e54_8 : A8.eval (.tmp 54) = (.slice (some ⟨wx.heap.size, 0, none⟩) 0 0) := by rw [← hA8]; exact put_same (by rw [z7]; decide)
              clear e55_7 e62_7 z7
              refine wpAnyH_all (rs := [2]) (by kernel_rfl) (by simp) (fun i hi => ?_)
              obtain rfl := List.mem_singleton.1 hi
              refine wpOp_step rfl (fun K hK => ?_)
              have hn0 : ((World.drew wx).alloc (.cells #[] 9)).ownsRow wx.heap.size 9 1 (.slice (some ⟨wx.heap.size, 0, none⟩) 0 0) 0 [] := ⟨rfl, .inr ⟨wx.heap.size, 0, #[], rfl, Nat.le_refl _, heap_alloc_new (World.drew wx) _, Nat.le_refl _, Nat.zero_le _, rfl, rfl⟩⟩
              have hbr := (HST.out.row.kept (hS1.block _ HST.out.row.lt)).cells
              refine step_append_own' rfl (.tmp 54) (.tmp 55) 29 rfl wx.heap.size 9 s0 (.string ⟨#[]⟩) 1 16 Try.underlying29 hs0 hs1 hs2 hs3 rfl (by decide) _ 0 [] e54_8 hn0 ⟨bg, 0, none⟩ bn bc (but.map Value.string) e55_8 (by rw [List.length_map, Nat.mul_one]; exact HBN.out) hbr (by intro u hu; obtain ⟨s, _, rfl⟩ := List.mem_map.1 hu; rfl) (by unfold maxLen; omega) (by omega) hS1.size ?_
              intro v1 X1 hown1 hgrow1 hnil1 hat1
              have hX1 : Below wx.heap.size wx X1 := hS1.trans ⟨hgrow1.os, hgrow1.tape, hgrow1.output, hgrow1.size, fun k hk => hgrow1.block k (Nat.lt_of_lt_of_le hk hS1.size) (by simp [Value.ownBlock]; omega)⟩
              obtain ⟨g1, c1, rfl, hg1⟩ := row_some hown1 (fun e => by have := hnil1.1 e; cases this.1)
              refine hK _ _ ⟨hX1, ?_⟩
              clear hK K hn0 hbr hgrow1 hnil1 hat1
              change wpAnyH _ _ _ _ _ _ _ (Act.put A8 (some 56) ((.slice (some ⟨g1, 0, none⟩) (0 + bn) c1))) _
              generalize hA9 : Act.put A8 (some 56) ((.slice (some ⟨g1, 0, none⟩) (0 + bn) c1)) = A9
              have z9 : A9.tmps.size = 75 := by rw [← hA9, put_size]; exact z8
              have e62_9 : A9.eval (.tmp 62) = (.agg #[.int .i64 y0, .int .i64 y1, .string y2, .slice ya3 yl3 yc3, .slice ya4 yl4 yc4]) := by rw [← hA9, put_ne (by decide)]; exact e62_8
              have e56_9 : A9.eval (.tmp 56) = (.slice (some ⟨g1, 0, none⟩) (0 + bn) c1) := by rw [← hA9]; exact put_same (by rw [z8]; decide)
              clear e55_8 e62_8 e54_8 z8
              refine wpAnyH_all (rs := [9]) (by kernel_rfl) (by simp) (fun i hi => ?_)
              obtain rfl := List.mem_singleton.1 hi
              refine wpOp_step rfl (fun K hK => ?_)
              refine step_call rfl Try.enterVars rfl #[(.agg #[.int .i64 y0, .int .i64 y1, .string y2, .slice ya3 yl3 yc3, .slice ya4 yl4 yc4])] (by simp only [List.map_toArray, List.map_cons, List.map_nil]; rw [e62_9]) ?_
              refine (HVS.out X1 hX1).mono ?_
              rintro e X2 ⟨g2, n2, c2, rfl, HR2, hb2⟩
              have hX2 : Below wx.heap.size wx X2 := hX1.trans (hb2.mono hX1.size)
              refine ⟨_, rfl, hK _ _ ⟨hX2, ?_⟩⟩
              clear hK K
              change wpAnyH _ _ _ _ _ _ _ (Act.put A9 (some 63) ((.slice (some ⟨g2, 0, none⟩) n2 c2))) _
              generalize hA10 : Act.put A9 (some 63) ((.slice (some ⟨g2, 0, none⟩) n2 c2)) = A10
              have z10 : A10.tmps.size = 75 := by rw [← hA10, put_size]; exact z9
              have e56_10 : A10.eval (.tmp 56) = (.slice (some ⟨g1, 0, none⟩) (0 + bn) c1) := by rw [← hA10, put_ne (by decide)]; exact e56_9
              have e63_10 : A10.eval (.tmp 63) = (.slice (some ⟨g2, 0, none⟩) n2 c2) := by rw [← hA10]; exact put_same (by rw [z9]; decide)
              clear e62_9 e56_9 z9
              refine wpAnyH_all (rs := [10]) (by kernel_rfl) (by simp) (fun i hi => ?_)
              obtain rfl := List.mem_singleton.1 hi
              refine wpOp_step rfl (fun K hK => ?_)
              have hown2 := rowKept hown1 (w' := X2) (fun k hk => hb2.block k (own_blk hown1 k hk).2)
              obtain ⟨hn2, hcl2⟩ := HR2.out.cells
              have hg12 : g1 ≠ g2 := by have := (own_blk hown1 g1 rfl).2; have := (own_blk HR2.out g2 rfl).1; omega
              refine step_append_own' rfl (.tmp 56) (.tmp 63) 29 rfl wx.heap.size 9 s0 (.string ⟨#[]⟩) 1 16 Try.underlying29 hs0 hs1 hs2 hs3 rfl (by decide) _ (0 + bn) _ e56_10 hown2 ⟨g2, 0, none⟩ n2 c2 (VP.map Value.string) e63_10 (by rw [List.length_map, Nat.mul_one]; exact hn2.symm) hcl2 (by intro u hu; obtain ⟨s, _, rfl⟩ := List.mem_map.1 hu; rfl) (by unfold maxLen; omega) (by omega) hX2.size ?_
              intro v3 X3 hown3 hgrow3 hnil3 hat3
              have hX3 : Below wx.heap.size wx X3 := hX2.trans ⟨hgrow3.os, hgrow3.tape, hgrow3.output, hgrow3.size, fun k hk => hgrow3.block k (Nat.lt_of_lt_of_le hk hX2.size) (by simp [Value.ownBlock]; omega)⟩
              obtain ⟨g3, c3', rfl, hg3⟩ := row_some hown3 (fun e => by have := hnil3.1 e; cases this.1)
              have HFI : Hid (0 + bn + n2 = (but ++ VP).length ∧ RowAt X3 g3 c3' (but ++ VP) ∧ Below wx.heap.size wx X3 ∧ wx.heap.size ≤ g3) := by
                have e1 : 0 + bn + n2 = (but ++ VP).length := by rw [List.length_append, hn2]; have := HBN.out; omega
                refine ⟨e1, ?_, hX3, hg3⟩
                have := row_low hown3 (Nat.zero_le _)
                unfold RowAt
                rw [← e1, List.map_append]
                simpa using this
              refine hK _ _ ⟨hX3, ?_⟩
              clear hK K hown1 hown2 hown3 hgrow3 hnil3 hat3 hcl2 HR2
              change wpAnyH _ _ _ _ _ _ _ (Act.put A10 (some 64) ((.slice (some ⟨g3, 0, none⟩) (0 + bn + n2) c3'))) _
              generalize hA11 : Act.put A10 (some 64) ((.slice (some ⟨g3, 0, none⟩) (0 + bn + n2) c3')) = A11
              have z11 : A11.tmps.size = 75 := by rw [← hA11, put_size]; exact z10
              have e64_11 : A11.eval (.tmp 64) = (.slice (some ⟨g3, 0, none⟩) (0 + bn + n2) c3') := by rw [← hA11]; exact put_same (by rw [z10]; decide)
              clear e56_10 e63_10 z10
              refine wpAnyH_take (i := 11) (v := (.slice (some ⟨g3, 0, none⟩) (0 + bn + n2) c3')) rfl (by kernel_rfl) (by kernel_rfl) (by kernel_rfl) (fun _ _ _ h => h) (Or.inl ⟨rfl, fun X hX => ?_⟩) hX3 ?_
              · rw [BigFrame.run_assign (.tmp 64) rfl X, e64_11]
              change wpAnyH _ _ _ _ _ _ _ (Act.put A11 (some 9) _) _
              generalize hA12 : Act.put A11 (some 9) _ = A12
              refine wpAnyH_done (by kernel_rfl) ?_ _
              clear e64_11 z11
              subst hA12 hA11 hA10 hA9 hA8 hA7 hA6 hA5 hA4 hA3 hA2 hA1 hA0
              simp only [Act.put, List.setIfInBounds_toArray, List.set_cons_zero, List.set_cons_succ]
              go_wp2_with fail
              go_meet
              case rel => exact ⟨_, _, _, rfl, HFI⟩

            case rest =>
              obtain ⟨ig, n9, c9, rfl, HV9⟩ := hcut
              obtain ⟨wy, hwy⟩ : ∃ wy, wy = wc := ⟨_, rfl⟩
              rw [← hwy] at HV9 ⊢
              have hB := HV9.out.2.2.1
              have b4' := cell_later hB b4
              have k0' := cell_later hB k0
              have k1' := cell_later hB k1
              have k2' := cell_later hB k2
              have k3' := cell_later hB k3
              have k4' := cell_later hB k4
              have hC := HCX.out wy hB ig c9 HV9.out.2.1 HV9.out.2.2.2
              rw [← HV9.out.1] at hC
              clear HCX HVS HST b4 f0 f1 f2 f3 f4 k0 k1 k2 k3 k4 hwy hbx hB
              go_wp2_with fail
              refine hC.mono ?_
              clear hC b4' k0' k1' k2' k3' k4' HV9
              rintro _ w' ⟨g', n', c', rfl, HQ⟩
              go_wp2_with fail
              go_roundw
              case rel => exact ⟨i + 1, g', n', c', by omega, by go_num, rfl, HQ.out⟩
              case measure => simp [intOf]; omega
          · obtain rfl : i = lC := by omega
            have hil' : decide ((i : Int) < (i : Int)) = false := by simp
            have HX : Hid (∃ g' n' c', (Value.slice (some ⟨g, 0, none⟩) n c) = .slice (some ⟨g', 0, none⟩) n' c' ∧ (n' = FIN.length ∧ RowAt wx g' c' FIN ∧ Grew w wx og g')) := by
              have hq := HJ.out
              rw [← HLC.out, List.take_length, HFIN.out] at hq
              exact ⟨g, n, c, rfl, hq.1, hq.2.1, HGB.out.trans hq.2.2.grew⟩
            clear HJ hbx HCL
            go_wp2_with fail
            go_ret
            obtain ⟨g', n', c', e1, e2⟩ := HX.out
            exact ⟨g, n, c, rfl, by simp only [Value.slice.injEq, Option.some.injEq, Addr.mk.injEq, and_true] at e1; obtain ⟨rfl, rfl, rfl⟩ := e1; exact e2⟩

end Go.Proofs.Ytpokheklplcamaa

/- The model's FreeOf, whole. -/
namespace Go.Proofs.Ytpokheklplcamaa
open Go.RowKit
set_option linter.unusedVariables false

theorem l4Free_any : ∀ d, FrC d := by
  intro d
  induction d with
  | zero => intro vs x fp w og oc out bg bc but h; exact h.elim
  | succ d ih => exact l4Free_of d ih

set_option maxRecDepth 100000 in
set_option maxHeartbeats 1000000 in
theorem specFreeOf_any (d : Nat) (vs : List Value) (x : Ex d) (fp : List Nat) (w : World) (hown : ExO d w vs x fp) (hlt : ∀ g ∈ fp, g < w.heap.size) (hz : szX d x ≤ 1048576) :
    Calls Try.prog 11 #[.agg vs.toArray] w fun r w' => ∃ g n c, r = .returned (.slice (some ⟨g, 0, none⟩) n c) ∧ Hid (StrRow w' w.heap.size (.slice (some ⟨g, 0, none⟩) n c) (freeX d [] [] x)) ∧ Below w.heap.size w w' := by
  obtain ⟨i0, i1, s2, a3, l3, c3, a4, l4, c4, rfl⟩ := ExO.shape d w vs x fp hown
  obtain ⟨B, hB⟩ : ∃ B, B = w.alloc (.cells #[.int .i64 i0, .int .i64 i1, .string s2, .slice a3 l3 c3, .slice a4 l4 c4] 27) := ⟨_, rfl⟩
  obtain ⟨B1, hB1⟩ : ∃ B1, B1 = B.alloc (.cells #[] 9) := ⟨_, rfl⟩
  obtain ⟨B2, hB2⟩ : ∃ B2, B2 = B1.alloc (.cells #[] 9) := ⟨_, rfl⟩
  have s0 : B.heap.size = w.heap.size + 1 := by rw [hB]; simp
  have s1 : B1.heap.size = w.heap.size + 1 + 1 := by rw [hB1]; simp [s0]
  have s2' : B2.heap.size = w.heap.size + 1 + 1 + 1 := by rw [hB2]; simp [s1]
  have b0 : Below w.heap.size w B := by rw [hB]; exact (Below.refl _ _).alloc (Nat.le_refl _) _
  have b1 : Below B.heap.size B B1 := by rw [hB1]; exact (Below.refl _ _).alloc (Nat.le_refl _) _
  have b2 : Below B1.heap.size B1 B2 := by rw [hB2]; exact (Below.refl _ _).alloc (Nat.le_refl _) _
  have b12 : Below B.heap.size B B2 := b1.trans (b2.mono b1.size)
  have b02 : Below w.heap.size w B2 := b0.trans (b12.mono b0.size)
  have n1 : B2.heap[w.heap.size + 1]? = some (.cells #[] 9 (0, 0)) := (b2.block _ (by omega)).trans (by rw [← s0, hB1]; exact heap_alloc_new B _)
  have n2 : B2.heap[w.heap.size + 1 + 1]? = some (.cells #[] 9 (0, 0)) := by rw [← s1, hB2]; exact heap_alloc_new B1 _
  have r1 : RowAt B2 (w.heap.size + 1) 0 [] := ⟨rfl, .inr ⟨_, 0, #[], rfl, Nat.zero_le _, n1, Nat.le_refl _, Nat.zero_le _, rfl, rfl⟩⟩
  have r2 : RowAt B2 (w.heap.size + 1 + 1) 0 [] := ⟨rfl, .inr ⟨_, 0, #[], rfl, Nat.zero_le _, n2, Nat.le_refl _, Nat.zero_le _, rfl, rfl⟩⟩
  have bx : B2.heap[w.heap.size]? = some (.cells #[.int .i64 i0, .int .i64 i1, .string s2, .slice a3 l3 c3, .slice a4 l4 c4] 27 (0, 0)) := (b12.block _ (by omega)).trans (by rw [hB]; exact heap_alloc_new w _)
  have hC := l4Free_any d _ x fp B2 (w.heap.size + 1) 0 [] (w.heap.size + 1 + 1) 0 [] (ExO.lasts d _ _ _ _ _ hown fun g hg => b02.block g (hlt g hg)) (fun g hg => by have := hlt g hg; omega) hz r1 r2 (fun hm => by have := hlt _ hm; omega) (by omega) (by simp only [List.length_nil]; omega) (by simp only [List.length_nil]; omega)
  have HFI : Hid (∀ (V : World) (g' n' c' : Nat), n' = (freeX d [] [] x).length ∧ RowAt V g' c' (freeX d [] [] x) ∧ Grew B2 V (w.heap.size + 1) g' → StrRow V w.heap.size (.slice (some ⟨g', 0, none⟩) n' c') (freeX d [] [] x) ∧ Below w.heap.size w V) := fun V g' n' c' hq => by
    obtain ⟨q1, q2, q3⟩ := hq
    have hgr := q3.grown
    refine ⟨?_, b02.trans ⟨hgr.os, hgr.tape, hgr.output, hgr.size, fun k hk => hgr.block k (by omega) (by simp; omega)⟩⟩
    rw [q1]
    obtain ⟨t1, t2⟩ := q2
    refine ⟨t1, ?_⟩
    rcases t2 with ⟨e, _⟩ | ⟨g, c, cur, e, _, t4⟩
    · cases e
    · simp only [Value.slice.injEq, Option.some.injEq, Addr.mk.injEq, and_true, true_and] at e
      obtain ⟨rfl, rfl⟩ := e
      exact .inr ⟨g', c', cur, rfl, by rcases q3.at' with h | h <;> omega, t4⟩
  have x0 : B2.cell? ⟨w.heap.size, 0, none⟩ = some (.int .i64 i0) := by rw [cell_of_row B2 _ 0 _ _ _ bx]; rfl
  have x1 : B2.cell? ⟨w.heap.size, 1, none⟩ = some (.int .i64 i1) := by rw [cell_of_row B2 _ 1 _ _ _ bx]; rfl
  have x2 : B2.cell? ⟨w.heap.size, 2, none⟩ = some (.string s2) := by rw [cell_of_row B2 _ 2 _ _ _ bx]; rfl
  have x3 : B2.cell? ⟨w.heap.size, 3, none⟩ = some (.slice a3 l3 c3) := by rw [cell_of_row B2 _ 3 _ _ _ bx]; rfl
  have x4 : B2.cell? ⟨w.heap.size, 4, none⟩ = some (.slice a4 l4 c4) := by rw [cell_of_row B2 _ 4 _ _ _ bx]; rfl
  obtain ⟨TOT, hTOT⟩ : ∃ l, freeX d [] [] x = l := ⟨_, rfl⟩
  rw [hTOT] at hC HFI ⊢
  rw [hB2, hB1, hB] at hC x0 x1 x2 x3 x4
  simp only [List.length_nil] at hC
  clear hown hlt hz s0 s1 s2' b0 b1 b2 b12 b02 n1 n2 r1 r2 bx hTOT
  go_enter Try.func11, Try.ntmps11
  go_wp2_with fail
  refine hC.mono ?_
  clear hC
  rintro _ V ⟨g', n', c', rfl, HQ⟩
  rw [← hB, ← hB1, ← hB2] at HQ
  have HX : Hid _ := HFI.out V g' n' c' HQ.out
  clear HQ HFI
  go_wp2_with fail
  go_ret
  exact ⟨g', n', c', rfl, HX.out.1, HX.out.2⟩

end Go.Proofs.Ytpokheklplcamaa
