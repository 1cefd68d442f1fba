/- The names that are free in an expression, as data; the lists that are still to be gone through. -/
import Derived.Test.YtpokheklplcamaaFmM
import Derived.Test.YtpokheklplcamaaSa6M
import Derived.Test.YtpokheklplcamaaNm0M
import Derived.BigRegion
namespace Go.Proofs.Ytpokheklplcamaa
open Go.RowKit
set_option linter.unusedVariables false

open Classical in
/-- One more name, if it is neither bound nor told. -/
noncomputable def tellX (but out : List ByteArray) (k : Int) (s : ByteArray) : List ByteArray := if k = 3 ∧ ¬ s ∈ but ∧ ¬ s ∈ out then out ++ [s] else out

noncomputable def freeX : (d : Nat) → List ByteArray → List ByteArray → Ex d → List ByteArray
  | 0, _, out, _ => out
  | d + 1, but, out, e => e.C.foldl (fun o c => freeX d (but ++ vars d c.1) o c.2) (e.E.foldl (fun o x => freeX d but o x) (tellX but out e.K e.S))

theorem tellX_alike {b b' out : List ByteArray} {k : Int} {s : ByteArray} (h : ∀ x, x ∈ b ↔ x ∈ b') : tellX b out k s = tellX b' out k s := by
  unfold tellX
  rw [h s]
theorem freeX_alike : ∀ (d : Nat) {b b' : List ByteArray} (out : List ByteArray) (e : Ex d), (∀ x, x ∈ b ↔ x ∈ b') → freeX d b out e = freeX d b' out e
  | 0, _, _, _, _, _ => rfl
  | d + 1, b, b', out, e, h => by
    show e.C.foldl _ (e.E.foldl _ _) = e.C.foldl _ (e.E.foldl _ _)
    rw [tellX_alike h]
    have h1 : (fun o x => freeX d b o x) = (fun o x => freeX d b' o x) := funext fun o => funext fun x => freeX_alike d o x h
    have h2 : (fun (o : List ByteArray) (c : Ex d × Ex d) => freeX d (b ++ vars d c.1) o c.2) = (fun o c => freeX d (b' ++ vars d c.1) o c.2) := funext fun o => funext fun c => freeX_alike d o c.2 (fun x => by simp only [List.mem_append, h x])
    rw [h1, h2]

/-- How much work an expression is. -/
def wkF : (d : Nat) → Ex d → Nat
  | 0, _ => 8
  | d + 1, e => 8 + (e.E.map fun x => wkF d x).sum + (e.C.map fun c => 8 + (vars d c.1).length + wkF d c.2).sum

/-- A list that is under way: parts, clauses, the next. -/
abbrev Fs := Value × Value × Nat
def ucells (fs : List Fs) : List Value := (fs.reverse.map fun f => [f.1, f.2.1, .int .i64 (f.2.2 : Nat)]).flatten
theorem ucells_cons (f : Fs) (fs : List Fs) : ucells (f :: fs) = ucells fs ++ [f.1, f.2.1, .int .i64 (f.2.2 : Nat)] := by unfold ucells; simp
theorem ucells_len (fs : List Fs) : (ucells fs).length = fs.length * 3 := by
  induction fs with
  | nil => rfl
  | cons f fs ih => rw [ucells_cons, List.length_append, ih]; simp only [List.length_cons, List.length_nil]; omega

/-- What is bound by a clause that is under way: where that is told, and which names. -/
abbrev Sc := Value × List ByteArray
def topS : List Sc → Value
  | [] => .pointer none
  | (v, _) :: _ => v

/-- A list of expressions that is under way. -/
def PtF (W : World) (fr : Fs) (b : List ByteArray) (rem : List Nat) (R : Nat) (F : List ByteArray → List ByteArray) : Prop :=
  ∃ (d : Nat) (xs : List (Ex d)) (g c : Nat) (cur : Array Value) (fps : List (List Nat)), fr.1 = .slice (some ⟨g, 0, none⟩) xs.length c ∧ fr.2.1 = .slice none 0 0 ∧ W.heap[g]? = some (.cells cur 27 (0, 0)) ∧ fps.length = xs.length ∧ 0 < xs.length ∧ xs.length ≤ 1048576 ∧ fr.2.2 ≤ xs.length ∧
    (∀ (i : Nat) (x : Ex d), xs[i]? = some x → ∃ vs f, fps[i]? = some f ∧ vs.length = 5 ∧ (∀ (j : Nat) (u : Value), vs[j]? = some u → cur[i * 5 + j]? = some u) ∧ ExO d W vs x f ∧ szX d x ≤ 1048576) ∧
    rem = (if fr.2.2 = 0 then [g] else []) ++ (fps.drop fr.2.2).flatten ∧ R = 1 + ((xs.drop fr.2.2).map fun x => wkF d x).sum ∧ F = fun o => (xs.drop fr.2.2).foldl (fun o x => freeX d b o x) o

/-- .. of clauses. -/
def ClF' (W : World) (fr : Fs) (b : List ByteArray) (rem : List Nat) (R : Nat) (F : List ByteArray → List ByteArray) : Prop :=
  ∃ (d : Nat) (xs : List (Ex d × Ex d)) (g c : Nat) (cur : Array Value) (fps : List (List Nat)), fr.2.1 = .slice (some ⟨g, 0, none⟩) xs.length c ∧ fr.1 = .slice none 0 0 ∧ W.heap[g]? = some (.cells cur 33 (0, 0)) ∧ fps.length = xs.length ∧ 0 < xs.length ∧ xs.length ≤ 1048576 ∧ fr.2.2 ≤ xs.length ∧
    (∀ (i : Nat) (x : Ex d × Ex d), xs[i]? = some x → ∃ vs us f f', fps[i]? = some (f ++ f') ∧ vs.length = 5 ∧ us.length = 5 ∧ (∀ (j : Nat) (u : Value), (vs ++ us)[j]? = some u → cur[i * 10 + j]? = some u) ∧ ExO d W vs x.1 f ∧ ExO d W us x.2 f' ∧ szX d x.1 ≤ 1048576 ∧ szX d x.2 ≤ 1048576) ∧
    rem = (if fr.2.2 = 0 then [g] else []) ++ (fps.drop fr.2.2).flatten ∧ R = 1 + ((xs.drop fr.2.2).map fun c => 8 + (vars d c.1).length + wkF d c.2).sum ∧ F = fun o => (xs.drop fr.2.2).foldl (fun o c => freeX d (b ++ vars d c.1) o c.2) o

/-- All that is under way, and what it comes to. -/
def FTS (W : World) : List Fs → List Sc → List ByteArray → List Nat → Nat → (List ByteArray → List ByteArray) → Prop
  | [], ss, cb, rem, R, F => ss = [] ∧ (∀ x, ¬ x ∈ cb) ∧ rem = [] ∧ R = 0 ∧ F = id
  | fr :: rest, ss, cb, rem, R, F =>
    (∃ r1 R1 F1 r2 R2 F2, PtF W fr cb r1 R1 F1 ∧ FTS W rest ss cb r2 R2 F2 ∧ rem = r1 ++ r2 ∧ R = R1 + R2 ∧ F = fun o => F2 (F1 o)) ∨
    (fr.2.2 = 0 ∧ ∃ r1 R1 F1 r2 R2 F2, ClF' W fr cb r1 R1 F1 ∧ FTS W rest ss cb r2 R2 F2 ∧ rem = r1 ++ r2 ∧ R = R1 + R2 ∧ F = fun o => F2 (F1 o)) ∨
    (0 < fr.2.2 ∧ ∃ sc ss' b r1 R1 F1 r2 R2 F2, ss = sc :: ss' ∧ (∀ x, x ∈ cb ↔ x ∈ sc.2 ∨ x ∈ b) ∧ (∀ x ∈ sc.2, ¬ x ∈ b) ∧ sc.2.length ≤ 30000000 ∧ ClF' W fr b r1 R1 F1 ∧ FTS W rest ss' b r2 R2 F2 ∧ rem = r1 ++ r2 ∧ R = R1 + R2 ∧ F = fun o => F2 (F1 o))

theorem PtF.alike {W : World} {fr : Fs} {b b' : List ByteArray} {rem : List Nat} {R : Nat} {F : List ByteArray → List ByteArray} (h : PtF W fr b rem R F) (hb : ∀ x, x ∈ b ↔ x ∈ b') : PtF W fr b' rem R F := by
  obtain ⟨d, xs, g, c, cur, fps, h1, h2, h3, h4, h5, h6, h7, h8, h9, h10, h11⟩ := h
  refine ⟨d, xs, g, c, cur, fps, h1, h2, h3, h4, h5, h6, h7, h8, h9, h10, ?_⟩
  rw [h11]
  have : (fun o x => freeX d b o x) = (fun o x => freeX d b' o x) := funext fun o => funext fun x => freeX_alike d o x hb
  rw [this]
theorem ClF'.alike {W : World} {fr : Fs} {b b' : List ByteArray} {rem : List Nat} {R : Nat} {F : List ByteArray → List ByteArray} (h : ClF' W fr b rem R F) (hb : ∀ x, x ∈ b ↔ x ∈ b') : ClF' W fr b' rem R F := by
  obtain ⟨d, xs, g, c, cur, fps, h1, h2, h3, h4, h5, h6, h7, h8, h9, h10, h11⟩ := h
  refine ⟨d, xs, g, c, cur, fps, h1, h2, h3, h4, h5, h6, h7, h8, h9, h10, ?_⟩
  rw [h11]
  have : (fun (o : List ByteArray) (c : Ex d × Ex d) => freeX d (b ++ vars d c.1) o c.2) = (fun o c => freeX d (b' ++ vars d c.1) o c.2) := funext fun o => funext fun c => freeX_alike d o c.2 (fun x => by simp only [List.mem_append, hb x])
  rw [this]
theorem FTS.alike {W : World} : ∀ {fs : List Fs} {ss : List Sc} {cb cb' : List ByteArray} {rem : List Nat} {R : Nat} {F : List ByteArray → List ByteArray}, FTS W fs ss cb rem R F → (∀ x, x ∈ cb ↔ x ∈ cb') → FTS W fs ss cb' rem R F
  | [], ss, cb, cb', rem, R, F, h, hb => ⟨h.1, fun x hx => h.2.1 x ((hb x).2 hx), h.2.2⟩
  | fr :: rest, ss, cb, cb', rem, R, F, h, hb => by
    rcases h with ⟨r1, R1, F1, r2, R2, F2, h1, h2, h3⟩ | ⟨h0, r1, R1, F1, r2, R2, F2, h1, h2, h3⟩ | ⟨h0, sc, ss', b, r1, R1, F1, r2, R2, F2, h1, h2, h3⟩
    · exact .inl ⟨r1, R1, F1, r2, R2, F2, h1.alike hb, h2.alike hb, h3⟩
    · exact .inr (.inl ⟨h0, r1, R1, F1, r2, R2, F2, h1.alike hb, h2.alike hb, h3⟩)
    · exact .inr (.inr ⟨h0, sc, ss', b, r1, R1, F1, r2, R2, F2, h1, fun x => (hb x).symm.trans (h2 x), h3⟩)
theorem PtF.pos {W : World} {fr : Fs} {b : List ByteArray} {rem : List Nat} {R : Nat} {F : List ByteArray → List ByteArray} (h : PtF W fr b rem R F) : 0 < R := by
  obtain ⟨d, xs, g, c, cur, fps, h1, h2, h3, h4, h5, h6, h7, h8, h9, h10, h11⟩ := h
  omega
theorem ClF'.pos {W : World} {fr : Fs} {b : List ByteArray} {rem : List Nat} {R : Nat} {F : List ByteArray → List ByteArray} (h : ClF' W fr b rem R F) : 0 < R := by
  obtain ⟨d, xs, g, c, cur, fps, h1, h2, h3, h4, h5, h6, h7, h8, h9, h10, h11⟩ := h
  omega
theorem FTS.few {W : World} : ∀ {fs : List Fs} {ss : List Sc} {cb : List ByteArray} {rem : List Nat} {R : Nat} {F : List ByteArray → List ByteArray}, FTS W fs ss cb rem R F → fs.length ≤ R ∧ ss.length ≤ R
  | [], ss, cb, rem, R, F, h => by rw [h.1]; exact ⟨Nat.zero_le _, Nat.zero_le _⟩
  | fr :: rest, ss, cb, rem, R, F, h => by
    rcases h with ⟨r1, R1, F1, r2, R2, F2, h1, h2, h3, h4, _⟩ | ⟨h0, r1, R1, F1, r2, R2, F2, h1, h2, h3, h4, _⟩ | ⟨h0, sc, ss', b, r1, R1, F1, r2, R2, F2, rfl, _, _, _, h1, h2, h3, h4, _⟩
    · have := h2.few; have := h1.pos; simp only [List.length_cons]; omega
    · have := h2.few; have := h1.pos; simp only [List.length_cons]; omega
    · have := h2.few; have := h1.pos; simp only [List.length_cons]; omega

end Go.Proofs.Ytpokheklplcamaa

/- The program's FreeOf: what its walk keeps in memory. -/
namespace Go.Proofs.Ytpokheklplcamaa
open Go.RowKit
set_option linter.unusedVariables false

/-- What the clauses under way have bound, and where it is told. -/
def ScE (K : List (Nat × Obj)) : List Sc → Prop
  | [] => True
  | (v, dl) :: rest => ((v = topS rest ∧ dl = []) ∨ (∃ b ar dp g c cur, v = .pointer (some ⟨b, 0, none⟩) ∧ v ≠ topS rest ∧ (b, Obj.cells #[ar, dp, .slice (some ⟨g, 0, none⟩) dl.length c] 152 (0, 0)) ∈ K ∧ (g, Obj.cells cur 9 (0, 0)) ∈ K ∧ (∀ (i : Nat) (s : ByteArray), dl[i]? = some s → cur[i]? = some (.string s)) ∧ 0 < dl.length ∧ (∀ s ∈ dl, s.size ≤ 1048576))) ∧ ScE K rest
theorem ScE.more {K K' : List (Nat × Obj)} (hK : ∀ k ∈ K, k ∈ K') : ∀ {ss : List Sc}, ScE K ss → ScE K' ss
  | [], _ => trivial
  | (v, dl) :: rest, h => by
    refine ⟨?_, h.2.more hK⟩
    rcases h.1 with h1 | ⟨b, ar, dp, g, c, cur, h1, h2, h3, h4, h5⟩
    · exact .inl h1
    · exact .inr ⟨b, ar, dp, g, c, cur, h1, h2, hK _ h3, hK _ h4, h5⟩
/-- The innermost: nothing, or a block that is kept. -/
theorem ScE.top {K : List (Nat × Obj)} : ∀ {ss : List Sc}, ScE K ss → topS ss = .pointer none ∨ ∃ b cur, topS ss = .pointer (some ⟨b, 0, none⟩) ∧ (b, Obj.cells cur 152 (0, 0)) ∈ K
  | [], _ => .inl rfl
  | (v, dl) :: rest, h => by
    rcases h.1 with ⟨h1, _⟩ | ⟨b, ar, dp, g, c, cur, h1, h2, h3, _⟩
    · rcases h.2.top with h3 | h3
      · exact .inl (h1.trans h3)
      · obtain ⟨b, o, h4, h5⟩ := h3; exact .inr ⟨b, o, h1.trans h4, h5⟩
    · exact .inr ⟨b, _, h1, h3⟩

/-- Blocks q: what is bound, q + 1: what is told, q + 2: what was met, q + 3: the walk itself. -/
structure Fw (W wr : World) (q nt nb : Nat) (nv sv uv : Value) (acc tl cb : List ByteArray) (f : Addr → Int → Option Value) (ss : List Sc) (fs : List Fs) (K : List (Nat × Obj)) : Prop where
  bel : Below q W wr
  wsz : W.heap.size = q + 4
  row : wr.heap[q + 3]? = some (.cells #[nv, .map (some (q + 1)), .map (some q), sv, .map (some (q + 2)), uv] 67 (0, 0))
  names : wr.ownsRow (q + 4) 9 1 nv acc.length (acc.map Value.string)
  scp : wr.ownsRow (q + 4) 149 1 sv ss.length ((ss.map Prod.fst).reverse)
  und : wr.ownsRow (q + 4) 109 3 uv fs.length (ucells fs)
  told : TMap wr (q + 1) nt (fun x => x ∈ tl)
  bound : TMap wr q nb (fun x => x ∈ cb)
  met : SMap wr (q + 2) f
  keys : ∀ x n v, f x n = some v → x.block < q
  sces : ScE K ss
  ext : ∀ k ∈ K, wr.heap[k.1]? = some k.2 ∧ q + 4 ≤ k.1 ∧ nv.ownBlock ≠ some k.1 ∧ sv.ownBlock ≠ some k.1 ∧ uv.ownBlock ≠ some k.1

theorem Fw.sz {W wr : World} {q nt nb : Nat} {nv sv uv : Value} {acc tl cb : List ByteArray} {f : Addr → Int → Option Value} {ss : List Sc} {fs : List Fs} {K : List (Nat × Obj)} (h : Fw W wr q nt nb nv sv uv acc tl cb f ss fs K) : q + 4 ≤ wr.heap.size := by have := h.bel.size; have := h.wsz; omega
theorem Fw.plain {W wr : World} {q nt nb : Nat} {nv sv uv : Value} {acc tl cb : List ByteArray} {f : Addr → Int → Option Value} {ss : List Sc} {fs : List Fs} {K : List (Nat × Obj)} (h : Fw W wr q nt nb nv sv uv acc tl cb f ss fs K) {w' : World} (hb : ∀ g, g < q → w'.heap[g]? = wr.heap[g]?) (hm : w'.heap[q + 2]? = wr.heap[q + 2]?) : SMap w' (q + 2) f :=
  h.met.kept hm fun x n v hv ⟨c, t, hc⟩ => ⟨c, t, (hb _ (h.keys x n v hv)).trans hc⟩

theorem Fw.later {W wr : World} {q nt nb : Nat} {nv sv uv : Value} {acc tl cb : List ByteArray} {f : Addr → Int → Option Value} {ss : List Sc} {fs : List Fs} {K : List (Nat × Obj)} (h : Fw W wr q nt nb nv sv uv acc tl cb f ss fs K) {w' : World} (hb : Below wr.heap.size wr w') : Fw W w' q nt nb nv sv uv acc tl cb f ss fs K := by
  have hs := h.sz
  refine ⟨h.bel.trans (hb.mono (by omega)), h.wsz, (hb.block _ (by omega)).trans h.row, rowKept h.names fun g hn => hb.block g (own_blk h.names g hn).2, rowKept h.scp fun g hn => hb.block g (own_blk h.scp g hn).2, rowKept h.und fun g hn => hb.block g (own_blk h.und g hn).2, h.told.kept (hb.block _ (by omega)), h.bound.kept (hb.block _ (by omega)), h.plain (fun g hg => hb.block g (by omega)) (hb.block _ (by omega)), h.keys, h.sces, fun k hk => ⟨(hb.block _ (lt_row (h.ext k hk).1)).trans (h.ext k hk).1, (h.ext k hk).2⟩⟩

theorem Fw.cells {W wr : World} {q nt nb : Nat} {nv sv uv : Value} {acc tl cb : List ByteArray} {f : Addr → Int → Option Value} {ss : List Sc} {fs : List Fs} {K : List (Nat × Obj)} (h : Fw W wr q nt nb nv sv uv acc tl cb f ss fs K) : wr.cell? ⟨q + 3, 0, none⟩ = some nv ∧ wr.cell? ⟨q + 3, 1, none⟩ = some (.map (some (q + 1))) ∧ wr.cell? ⟨q + 3, 2, none⟩ = some (.map (some q)) ∧ wr.cell? ⟨q + 3, 3, none⟩ = some sv ∧ wr.cell? ⟨q + 3, 4, none⟩ = some (.map (some (q + 2))) ∧ wr.cell? ⟨q + 3, 5, none⟩ = some uv ∧ ∀ i, wr.frozen? ⟨q + 3, i, none⟩ = false := by
  refine ⟨?_, ?_, ?_, ?_, ?_, ?_, fun i => frozen_of_row wr _ _ _ _ h.row⟩
  · rw [cell_of_row wr _ 0 _ _ _ h.row]; rfl
  · rw [cell_of_row wr _ 1 _ _ _ h.row]; rfl
  · rw [cell_of_row wr _ 2 _ _ _ h.row]; rfl
  · rw [cell_of_row wr _ 3 _ _ _ h.row]; rfl
  · rw [cell_of_row wr _ 4 _ _ _ h.row]; rfl
  · rw [cell_of_row wr _ 5 _ _ _ h.row]; rfl

/-- One of the three maps turns. -/
theorem Fw.maps {W wr : World} {q nt nb : Nat} {nv sv uv : Value} {acc tl cb : List ByteArray} {f : Addr → Int → Option Value} {ss : List Sc} {fs : List Fs} {K : List (Nat × Obj)} (h : Fw W wr q nt nb nv sv uv acc tl cb f ss fs K) {w' : World} {b nt' nb' : Nat} {tl' cb' : List ByteArray} {f' : Addr → Int → Option Value} (hg : wr.grownBy w' (some b)) (hb : q ≤ b ∧ b < q + 3) (h1 : TMap w' (q + 1) nt' (fun x => x ∈ tl')) (h2 : TMap w' q nb' (fun x => x ∈ cb')) (h3 : SMap w' (q + 2) f') (h4 : ∀ x n v, f' x n = some v → x.block < q) : Fw W w' q nt' nb' nv sv uv acc tl' cb' f' ss fs K := by
  have hs := h.sz
  have hne : ∀ g, g < wr.heap.size → g ≠ b → w'.heap[g]? = wr.heap[g]? := fun g hg' hn => hg.block g hg' (by simpa using hn)
  have hb1 := h.bel
  refine ⟨⟨hg.os.trans hb1.os, hg.tape.trans hb1.tape, hg.output.trans hb1.output, Nat.le_trans hb1.size hg.size, fun g hg' => (hne g (by omega) (by omega)).trans (hb1.block g hg')⟩, h.wsz, (hne _ (by omega) (by omega)).trans h.row, rowKept h.names fun g hn => hne g (own_blk h.names g hn).2 (by have := (own_blk h.names g hn).1; omega), rowKept h.scp fun g hn => hne g (own_blk h.scp g hn).2 (by have := (own_blk h.scp g hn).1; omega), rowKept h.und fun g hn => hne g (own_blk h.und g hn).2 (by have := (own_blk h.und g hn).1; omega), h1, h2, h3, h4, h.sces, fun k hk => ⟨(hne _ (lt_row (h.ext k hk).1) (by have := (h.ext k hk).2.1; omega)).trans (h.ext k hk).1, (h.ext k hk).2⟩⟩
theorem Fw.toldPut {W wr : World} {q nt nb : Nat} {nv sv uv : Value} {acc tl cb : List ByteArray} {f : Addr → Int → Option Value} {ss : List Sc} {fs : List Fs} {K : List (Nat × Obj)} (h : Fw W wr q nt nb nv sv uv acc tl cb f ss fs K) {w' : World} {nt' : Nat} {tl' : List ByteArray} (hg : wr.mapTurned w' (q + 1)) (h1 : TMap w' (q + 1) nt' (fun x => x ∈ tl')) : Fw W w' q nt' nb nv sv uv acc tl' cb f ss fs K := by
  have hs := h.sz
  have hgg := hg.grown
  exact h.maps hgg ⟨by omega, by omega⟩ h1 (h.bound.kept (hgg.block _ (by omega) (by simp))) (h.plain (fun g hg' => hgg.block g (by omega) (by simp; omega)) (hgg.block _ (by omega) (by simp))) h.keys
theorem Fw.boundPut {W wr : World} {q nt nb : Nat} {nv sv uv : Value} {acc tl cb : List ByteArray} {f : Addr → Int → Option Value} {ss : List Sc} {fs : List Fs} {K : List (Nat × Obj)} (h : Fw W wr q nt nb nv sv uv acc tl cb f ss fs K) {w' : World} {nb' : Nat} {cb' : List ByteArray} (hg : wr.mapTurned w' q) (h1 : TMap w' q nb' (fun x => x ∈ cb')) : Fw W w' q nt nb' nv sv uv acc tl cb' f ss fs K := by
  have hs := h.sz
  have hgg := hg.grown
  exact h.maps hgg ⟨by omega, by omega⟩ (h.told.kept (hgg.block _ (by omega) (by simp))) h1 (h.plain (fun g hg' => hgg.block g (by omega) (by simp; omega)) (hgg.block _ (by omega) (by simp))) h.keys
theorem Fw.metPut {W wr : World} {q nt nb : Nat} {nv sv uv : Value} {acc tl cb : List ByteArray} {f : Addr → Int → Option Value} {ss : List Sc} {fs : List Fs} {K : List (Nat × Obj)} (h : Fw W wr q nt nb nv sv uv acc tl cb f ss fs K) {w' : World} {f' : Addr → Int → Option Value} (hg : wr.mapTurned w' (q + 2)) (h1 : SMap w' (q + 2) f') (h4 : ∀ x n v, f' x n = some v → x.block < q) : Fw W w' q nt nb nv sv uv acc tl cb f' ss fs K := by
  have hs := h.sz
  have hgg := hg.grown
  exact h.maps hgg ⟨by omega, by omega⟩ (h.told.kept (hgg.block _ (by omega) (by simp))) (h.bound.kept (hgg.block _ (by omega) (by simp))) h1 h4

/-- Blocks that are made are held. -/
theorem Fw.hold {W wr : World} {q nt nb : Nat} {nv sv uv : Value} {acc tl cb : List ByteArray} {f : Addr → Int → Option Value} {ss : List Sc} {fs : List Fs} {K : List (Nat × Obj)} (h : Fw W wr q nt nb nv sv uv acc tl cb f ss fs K) {K' : List (Nat × Obj)} (hK : ∀ k ∈ K', k ∈ K ∨ (wr.heap[k.1]? = some k.2 ∧ q + 4 ≤ k.1 ∧ nv.ownBlock ≠ some k.1 ∧ sv.ownBlock ≠ some k.1 ∧ uv.ownBlock ≠ some k.1)) (hK2 : ∀ k ∈ K, k ∈ K') : Fw W wr q nt nb nv sv uv acc tl cb f ss fs K' :=
  ⟨h.bel, h.wsz, h.row, h.names, h.scp, h.und, h.told, h.bound, h.met, h.keys, h.sces.more hK2, fun k hk => (hK k hk).elim (h.ext k) id⟩
theorem Fw.alike {W wr : World} {q nt nb : Nat} {nv sv uv : Value} {acc tl cb : List ByteArray} {f : Addr → Int → Option Value} {ss : List Sc} {fs : List Fs} {K : List (Nat × Obj)} (h : Fw W wr q nt nb nv sv uv acc tl cb f ss fs K) {cb' : List ByteArray} (hc : ∀ x, x ∈ cb ↔ x ∈ cb') : Fw W wr q nt nb nv sv uv acc tl cb' f ss fs K :=
  ⟨h.bel, h.wsz, h.row, h.names, h.scp, h.und, h.told, h.bound.alike (Nat.le_refl _) hc, h.met, h.keys, h.sces, h.ext⟩

theorem Fw.put_names {W wr : World} {q nt nb : Nat} {nv sv uv : Value} {acc tl cb : List ByteArray} {f : Addr → Int → Option Value} {ss : List Sc} {fs : List Fs} {K : List (Nat × Obj)} (h : Fw W wr q nt nb nv sv uv acc tl cb f ss fs K) {w2 : World} {v' : Value} {acc' : List ByteArray} (hown : w2.ownsRow (q + 4) 9 1 v' acc'.length (acc'.map Value.string)) (hg : wr.grownBy w2 nv.ownBlock) (hat : v'.ownBlock = nv.ownBlock ∨ v'.ownBlock = some wr.heap.size) : Fw W (w2.setCell ⟨q + 3, 0, none⟩ v') q nt nb v' sv uv acc' tl cb f ss fs K := by
  have hs := h.sz
  have hb1 := h.bel
  have hpu : ∀ g, nv.ownBlock = some g → q + 4 ≤ g := fun g e => (own_blk h.names g e).1
  have hlow : ∀ g, g < q + 4 → w2.heap[g]? = wr.heap[g]? := fun g hg' => hg.block g (by omega) (fun e => by have := hpu g e.symm; omega)
  have hh := heap_setCell_same w2 (q + 3) 0 _ 67 v' ((hlow _ (by omega)).trans h.row)
  have hoth : ∀ g, g ≠ q + 3 → (w2.setCell ⟨q + 3, 0, none⟩ v').heap[g]? = w2.heap[g]? := fun g hne => heap_setCell_other _ _ _ _ (by simpa using hne)
  have hl2 : ∀ g, g < q + 3 → (w2.setCell ⟨q + 3, 0, none⟩ v').heap[g]? = wr.heap[g]? := fun g hg' => (hoth g (by omega)).trans (hlow g (by omega))
  obtain ⟨s1, s2, s3, s4⟩ := set_rest w2 (q + 3) 0 v'
  refine ⟨⟨s1.trans (hg.os.trans hb1.os), s2.trans (hg.tape.trans hb1.tape), s3.trans (hg.output.trans hb1.output), Nat.le_trans hb1.size (Nat.le_trans hg.size s4), fun g hg' => (hl2 g (by omega)).trans (hb1.block g hg')⟩, h.wsz, hh.trans (by simp), rowKept hown fun g hn => hoth g (by have := (own_blk hown g hn).1; omega), rowKept h.scp fun g hn => (hoth g (by have := (own_blk h.scp g hn).1; omega)).trans (hg.block g (own_blk h.scp g hn).2 fun e => rows_apart h.scp h.names (by decide) g hn e.symm), rowKept h.und fun g hn => (hoth g (by have := (own_blk h.und g hn).1; omega)).trans (hg.block g (own_blk h.und g hn).2 fun e => rows_apart h.und h.names (by decide) g hn e.symm), h.told.kept (hl2 _ (by omega)), h.bound.kept (hl2 _ (by omega)), h.plain (fun g hg' => hl2 g (by omega)) (hl2 _ (by omega)), h.keys, h.sces, fun k hk => ?_⟩
  obtain ⟨hx1, hx2, hx3, hx4, hx5⟩ := h.ext k hk
  have hkl := lt_row hx1
  have hnew : v'.ownBlock ≠ some k.1 := fun e => by
    rcases hat with h' | h'
    · exact hx3 (h'.symm.trans e)
    · rw [h'] at e; simp only [Option.some.injEq] at e; omega
  have hx1 := (hoth _ (by omega)).trans ((hg.block _ hkl (fun e => hx3 e.symm)).trans hx1)
  exact ⟨hx1, hx2, hnew, hx4, hx5⟩
theorem Fw.rowTo_names {W wr : World} {q nt nb : Nat} {nv sv uv : Value} {acc tl cb : List ByteArray} {f : Addr → Int → Option Value} {ss : List Sc} {fs : List Fs} {K : List (Nat × Obj)} (h : Fw W wr q nt nb nv sv uv acc tl cb f ss fs K) {w2 : World} (hg : wr.grownBy w2 nv.ownBlock) : w2.heap[q + 3]? = some (.cells #[nv, .map (some (q + 1)), .map (some q), sv, .map (some (q + 2)), uv] 67 (0, 0)) := by
  have hs := h.sz
  exact (hg.block _ (by omega) (fun e => by have := (own_blk h.names _ e.symm).1; omega)).trans h.row

theorem Fw.put_scp {W wr : World} {q nt nb : Nat} {nv sv uv : Value} {acc tl cb : List ByteArray} {f : Addr → Int → Option Value} {ss : List Sc} {fs : List Fs} {K : List (Nat × Obj)} (h : Fw W wr q nt nb nv sv uv acc tl cb f ss fs K) {w2 : World} {v' : Value} {ss' : List Sc} (hsc : ScE K ss') (hown : w2.ownsRow (q + 4) 149 1 v' ss'.length ((ss'.map Prod.fst).reverse)) (hg : wr.grownBy w2 sv.ownBlock) (hat : v'.ownBlock = sv.ownBlock ∨ v'.ownBlock = some wr.heap.size) : Fw W (w2.setCell ⟨q + 3, 3, none⟩ v') q nt nb nv v' uv acc tl cb f ss' fs K := by
  have hs := h.sz
  have hb1 := h.bel
  have hpu : ∀ g, sv.ownBlock = some g → q + 4 ≤ g := fun g e => (own_blk h.scp g e).1
  have hlow : ∀ g, g < q + 4 → w2.heap[g]? = wr.heap[g]? := fun g hg' => hg.block g (by omega) (fun e => by have := hpu g e.symm; omega)
  have hh := heap_setCell_same w2 (q + 3) 3 _ 67 v' ((hlow _ (by omega)).trans h.row)
  have hoth : ∀ g, g ≠ q + 3 → (w2.setCell ⟨q + 3, 3, none⟩ v').heap[g]? = w2.heap[g]? := fun g hne => heap_setCell_other _ _ _ _ (by simpa using hne)
  have hl2 : ∀ g, g < q + 3 → (w2.setCell ⟨q + 3, 3, none⟩ v').heap[g]? = wr.heap[g]? := fun g hg' => (hoth g (by omega)).trans (hlow g (by omega))
  obtain ⟨s1, s2, s3, s4⟩ := set_rest w2 (q + 3) 3 v'
  refine ⟨⟨s1.trans (hg.os.trans hb1.os), s2.trans (hg.tape.trans hb1.tape), s3.trans (hg.output.trans hb1.output), Nat.le_trans hb1.size (Nat.le_trans hg.size s4), fun g hg' => (hl2 g (by omega)).trans (hb1.block g hg')⟩, h.wsz, hh.trans (by simp), rowKept h.names fun g hn => (hoth g (by have := (own_blk h.names g hn).1; omega)).trans (hg.block g (own_blk h.names g hn).2 fun e => rows_apart h.names h.scp (by decide) g hn e.symm), rowKept hown fun g hn => hoth g (by have := (own_blk hown g hn).1; omega), rowKept h.und fun g hn => (hoth g (by have := (own_blk h.und g hn).1; omega)).trans (hg.block g (own_blk h.und g hn).2 fun e => rows_apart h.und h.scp (by decide) g hn e.symm), h.told.kept (hl2 _ (by omega)), h.bound.kept (hl2 _ (by omega)), h.plain (fun g hg' => hl2 g (by omega)) (hl2 _ (by omega)), h.keys, hsc, fun k hk => ?_⟩
  obtain ⟨hx1, hx2, hx3, hx4, hx5⟩ := h.ext k hk
  have hkl := lt_row hx1
  have hnew : v'.ownBlock ≠ some k.1 := fun e => by
    rcases hat with h' | h'
    · exact hx4 (h'.symm.trans e)
    · rw [h'] at e; simp only [Option.some.injEq] at e; omega
  have hx1 := (hoth _ (by omega)).trans ((hg.block _ hkl (fun e => hx4 e.symm)).trans hx1)
  exact ⟨hx1, hx2, hx3, hnew, hx5⟩
theorem Fw.rowTo_scp {W wr : World} {q nt nb : Nat} {nv sv uv : Value} {acc tl cb : List ByteArray} {f : Addr → Int → Option Value} {ss : List Sc} {fs : List Fs} {K : List (Nat × Obj)} (h : Fw W wr q nt nb nv sv uv acc tl cb f ss fs K) {w2 : World} (hg : wr.grownBy w2 sv.ownBlock) : w2.heap[q + 3]? = some (.cells #[nv, .map (some (q + 1)), .map (some q), sv, .map (some (q + 2)), uv] 67 (0, 0)) := by
  have hs := h.sz
  exact (hg.block _ (by omega) (fun e => by have := (own_blk h.scp _ e.symm).1; omega)).trans h.row

theorem Fw.put_und {W wr : World} {q nt nb : Nat} {nv sv uv : Value} {acc tl cb : List ByteArray} {f : Addr → Int → Option Value} {ss : List Sc} {fs : List Fs} {K : List (Nat × Obj)} (h : Fw W wr q nt nb nv sv uv acc tl cb f ss fs K) {w2 : World} {v' : Value} {fs' : List Fs} (hown : w2.ownsRow (q + 4) 109 3 v' fs'.length (ucells fs')) (hg : wr.grownBy w2 uv.ownBlock) (hat : v'.ownBlock = uv.ownBlock ∨ v'.ownBlock = some wr.heap.size) : Fw W (w2.setCell ⟨q + 3, 5, none⟩ v') q nt nb nv sv v' acc tl cb f ss fs' K := by
  have hs := h.sz
  have hb1 := h.bel
  have hpu : ∀ g, uv.ownBlock = some g → q + 4 ≤ g := fun g e => (own_blk h.und g e).1
  have hlow : ∀ g, g < q + 4 → w2.heap[g]? = wr.heap[g]? := fun g hg' => hg.block g (by omega) (fun e => by have := hpu g e.symm; omega)
  have hh := heap_setCell_same w2 (q + 3) 5 _ 67 v' ((hlow _ (by omega)).trans h.row)
  have hoth : ∀ g, g ≠ q + 3 → (w2.setCell ⟨q + 3, 5, none⟩ v').heap[g]? = w2.heap[g]? := fun g hne => heap_setCell_other _ _ _ _ (by simpa using hne)
  have hl2 : ∀ g, g < q + 3 → (w2.setCell ⟨q + 3, 5, none⟩ v').heap[g]? = wr.heap[g]? := fun g hg' => (hoth g (by omega)).trans (hlow g (by omega))
  obtain ⟨s1, s2, s3, s4⟩ := set_rest w2 (q + 3) 5 v'
  refine ⟨⟨s1.trans (hg.os.trans hb1.os), s2.trans (hg.tape.trans hb1.tape), s3.trans (hg.output.trans hb1.output), Nat.le_trans hb1.size (Nat.le_trans hg.size s4), fun g hg' => (hl2 g (by omega)).trans (hb1.block g hg')⟩, h.wsz, hh.trans (by simp), rowKept h.names fun g hn => (hoth g (by have := (own_blk h.names g hn).1; omega)).trans (hg.block g (own_blk h.names g hn).2 fun e => rows_apart h.names h.und (by decide) g hn e.symm), rowKept h.scp fun g hn => (hoth g (by have := (own_blk h.scp g hn).1; omega)).trans (hg.block g (own_blk h.scp g hn).2 fun e => rows_apart h.scp h.und (by decide) g hn e.symm), rowKept hown fun g hn => hoth g (by have := (own_blk hown g hn).1; omega), h.told.kept (hl2 _ (by omega)), h.bound.kept (hl2 _ (by omega)), h.plain (fun g hg' => hl2 g (by omega)) (hl2 _ (by omega)), h.keys, h.sces, fun k hk => ?_⟩
  obtain ⟨hx1, hx2, hx3, hx4, hx5⟩ := h.ext k hk
  have hkl := lt_row hx1
  have hnew : v'.ownBlock ≠ some k.1 := fun e => by
    rcases hat with h' | h'
    · exact hx5 (h'.symm.trans e)
    · rw [h'] at e; simp only [Option.some.injEq] at e; omega
  have hx1 := (hoth _ (by omega)).trans ((hg.block _ hkl (fun e => hx5 e.symm)).trans hx1)
  exact ⟨hx1, hx2, hx3, hx4, hnew⟩
theorem Fw.rowTo_und {W wr : World} {q nt nb : Nat} {nv sv uv : Value} {acc tl cb : List ByteArray} {f : Addr → Int → Option Value} {ss : List Sc} {fs : List Fs} {K : List (Nat × Obj)} (h : Fw W wr q nt nb nv sv uv acc tl cb f ss fs K) {w2 : World} (hg : wr.grownBy w2 uv.ownBlock) : w2.heap[q + 3]? = some (.cells #[nv, .map (some (q + 1)), .map (some q), sv, .map (some (q + 2)), uv] 67 (0, 0)) := by
  have hs := h.sz
  exact (hg.block _ (by omega) (fun e => by have := (own_blk h.und _ e.symm).1; omega)).trans h.row

end Go.Proofs.Ytpokheklplcamaa

/- The program's FreeOf: rows that are shortened, set and looked at; its scope and tell. -/
namespace Go.Proofs.Ytpokheklplcamaa
open Go.RowKit
set_option linter.unusedVariables false

theorem grown_refl (w : World) (r : Option Nat) : w.grownBy w r := ⟨rfl, rfl, rfl, Nat.le_refl _, fun _ _ _ => rfl⟩

/-- What stands last in a row. -/
theorem rowlast_any {w : World} {B e z n : Nat} {v : Value} {xs ys : List Value} (h : w.ownsRow B e z v (n + 1) (xs ++ ys)) (hx : xs.length = n * z) : ∃ g c, v = .slice (some ⟨g, 0, none⟩) (n + 1) c ∧ B ≤ g ∧ g < w.heap.size ∧ n + 1 ≤ c ∧ (∀ i, w.frozen? ⟨g, i, none⟩ = false) ∧ ∀ (i : Nat) (u : Value), ys[i]? = some u → w.cell? ⟨g, n * z + i, none⟩ = some u := by
  obtain ⟨hl, hr⟩ := h
  rcases hr with ⟨_, e0⟩ | ⟨g, c, cur, e, q1, q2, q3, q4, q5, q6⟩
  · omega
  · refine ⟨g, c, e, q1, lt_row q2, q3, fun i => frozen_of_row w _ _ _ _ q2, fun i u hi => ?_⟩
    have hi4 : i < ys.length := (List.getElem?_eq_some_iff.1 hi).1
    rw [List.length_append] at hl
    rw [cell_of_row w _ _ _ _ _ q2]
    have h1 := congrArg (fun l : List Value => l[n * z + i]?) q6
    rw [List.getElem?_append_right (by omega), hx, Nat.add_sub_cancel_left, hi, List.getElem?_take_of_lt (by omega)] at h1
    rw [← Array.getElem?_toList]
    exact h1
/-- A row without its last. -/
theorem row_short {w : World} {B e z n g c : Nat} {xs ys : List Value} (h : w.ownsRow B e z (.slice (some ⟨g, 0, none⟩) (n + 1) c) (n + 1) (xs ++ ys)) (hx : xs.length = n * z) : w.ownsRow B e z (.slice (some ⟨g, 0, none⟩) n c) n xs := by
  obtain ⟨hl, hr⟩ := h
  refine ⟨hx, .inr ?_⟩
  rcases hr with ⟨e0, _⟩ | ⟨g', cap, cur, e', q1, q2, q3, q4, q5, q6⟩
  · cases e0
  · simp only [Value.slice.injEq, Option.some.injEq, Addr.mk.injEq, and_true, true_and] at e'
    obtain ⟨rfl, rfl⟩ := e'
    refine ⟨g, c, cur, rfl, q1, q2, by omega, q4, q5, ?_⟩
    have := congrArg (List.take (n * z)) q6
    rw [List.take_take, Nat.min_eq_left (by rw [Nat.succ_mul]; omega), List.take_append_of_le_length (by omega), ← hx, List.take_length] at this
    rw [← hx]
    exact this
/-- One cell of a row is set. -/
theorem row_set {w : World} {B e z n g c k : Nat} {xs : List Value} (h : w.ownsRow B e z (.slice (some ⟨g, 0, none⟩) n c) n xs) (hk : k < n * z) (u : Value) : (w.setCell ⟨g, k, none⟩ u).ownsRow B e z (.slice (some ⟨g, 0, none⟩) n c) n (xs.set k u) := by
  obtain ⟨hl, hr⟩ := h
  refine ⟨by rw [List.length_set]; exact hl, .inr ?_⟩
  rcases hr with ⟨e0, _⟩ | ⟨g', cap, cur, e', q1, q2, q3, q4, q5, q6⟩
  · cases e0
  · simp only [Value.slice.injEq, Option.some.injEq, Addr.mk.injEq, and_true, true_and] at e'
    obtain ⟨rfl, rfl⟩ := e'
    refine ⟨g, c, cur.setIfInBounds k u, rfl, q1, heap_setCell_same w g k cur e u q2, q3, q4, by simpa using q5, ?_⟩
    rw [← q6, Array.toList_setIfInBounds, List.take_set]

theorem Fw.few {W wr : World} {q nt nb : Nat} {nv sv uv : Value} {acc tl cb : List ByteArray} {f : Addr → Int → Option Value} {ss : List Sc} {fs : List Fs} {K : List (Nat × Obj)} (h : Fw W wr q nt nb nv sv uv acc tl cb f ss fs K) : (∃ a c, nv = .slice a acc.length c) ∧ (∃ a c, sv = .slice a ss.length c) ∧ (∃ a c, uv = .slice a fs.length c) := by
  refine ⟨?_, ?_, ?_⟩
  · rcases h.names.2 with ⟨e, h0⟩ | ⟨g, c, cur, e, _⟩
    · exact ⟨_, _, by rw [e, h0]⟩
    · exact ⟨_, _, e⟩
  · rcases h.scp.2 with ⟨e, h0⟩ | ⟨g, c, cur, e, _⟩
    · exact ⟨_, _, by rw [e, h0]⟩
    · exact ⟨_, _, e⟩
  · rcases h.und.2 with ⟨e, h0⟩ | ⟨g, c, cur, e, _⟩
    · exact ⟨_, _, by rw [e, h0]⟩
    · exact ⟨_, _, e⟩

set_option maxRecDepth 100000 in
set_option maxHeartbeats 1000000 in
theorem scope_any {W wr : World} {q nt nb : Nat} {nv sv uv : Value} {acc tl cb : List ByteArray} {f : Addr → Int → Option Value} {ss : List Sc} {fs : List Fs} {K : List (Nat × Obj)} (h : Fw W wr q nt nb nv sv uv acc tl cb f ss fs K) (hss : ss.length ≤ 30000000) :
    Calls Try.prog 90 #[.pointer (some ⟨q + 3, 0, none⟩)] wr fun e w' => e = .returned (topS ss) ∧ Below wr.heap.size wr w' := by
  obtain ⟨_, _, _, c3, _⟩ := h.cells
  cases ss with
  | nil =>
    obtain ⟨_, ⟨a, c, rfl⟩, _⟩ := h.few
    clear h
    go_enter Try.func90, Try.ntmps90
    go_wp2_with fail
    go_ret
    exact ⟨rfl, Below.refl _ _⟩
  | cons sc ss =>
    have hr := h.scp
    simp only [List.map_cons, List.reverse_cons, List.length_cons] at hr
    obtain ⟨g, c, rfl, q1, q2, q3, q4, q5⟩ := rowlast_any hr (by simp)
    have t0 := q5 0 _ rfl
    rw [Nat.mul_one, Nat.add_zero] at t0
    have hv : ∃ a, sc.1 = .pointer a := by
      obtain ⟨v, dl⟩ := sc
      rcases h.sces.1 with ⟨e1, _⟩ | ⟨b, _, _, _, _, _, e1, _⟩
      · rcases h.sces.2.top with e2 | ⟨b, o, e2, _⟩
        · exact ⟨_, e1.trans e2⟩
        · exact ⟨_, e1.trans e2⟩
      · exact ⟨_, e1⟩
    obtain ⟨a, ha⟩ := hv
    have HT : Hid (topS (sc :: ss) = .pointer a) := ha
    obtain ⟨n, hn⟩ : ∃ n, ss.length = n := ⟨_, rfl⟩
    simp only [List.length_cons] at hss
    rw [hn] at c3 t0 q3 hss
    rw [ha] at t0
    rw [HT.out]
    clear h hr q4 q5 hn ha
    go_enter Try.func90, Try.ntmps90
    go_wp2_with fail
    go_region
    all_goals
      go_wp2_with fail
      go_ret
      exact ⟨rfl, below_drewN (Below.refl _ _) _⟩

end Go.Proofs.Ytpokheklplcamaa
