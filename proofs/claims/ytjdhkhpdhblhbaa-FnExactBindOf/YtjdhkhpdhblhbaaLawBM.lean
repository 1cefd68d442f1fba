/- What the law on BindOf holds in hand; how binds that came in are read. -/
import Derived.Test.YtjdhkhpdhblhbaaBi2M
import Derived.Test.YtjdhkhpdhblhbaaBi3M
import Derived.Test.YtjdhkhpdhblhbaaXmM
import Derived.Test.YtjdhkhpdhblhbaaMarkTM
import Derived.Test.YtjdhkhpdhblhbaaLawTM
import Derived.Test.YtjdhkhpdhblhbaaCpM
namespace Go.Proofs.Ytjdhkhpdhblhbaa
open Go.RowKit Go.ChangeShapes Go.WideShapes Go.Joins Go.Deep
set_option linter.unusedVariables false

theorem ck_sum {d : Nat} (bs : List (Bn d)) : (bs.map (ckB d)).sum ≤ 4 * szRow (szB d) bs := by
  unfold szRow
  induction bs with
  | nil => simp
  | cons b r ih =>
    have h1 := cntL_szL d b.t.L
    have h2 : ckB d b = 4 + 3 * cntL d b.t.L := rfl
    have h3 : szB d b = b.nm.size + (b.t.S.size + szL d b.t.L) := rfl
    simp only [List.map_cons, List.sum_cons, List.length_cons]
    omega

theorem binds_small {d : Nat} {bs : List (Bn d)} (h : szRow (szB d) bs ≤ 1048576) : bs.length ≤ 1048576 ∧ ∀ (i : Nat) (b : Bn d), bs[i]? = some b → cntL d b.t.L ≤ 1048576 ∧ FewL d b.t.L := by
  refine ⟨by unfold szRow at h; omega, fun i b hb => ?_⟩
  have h1 := szRow_mem (f := szB d) hb
  have h2 : szB d b = b.nm.size + (b.t.S.size + szL d b.t.L) := rfl
  have h3 := cntL_szL d b.t.L
  exact ⟨by omega, few_sz d _ (by omega)⟩

section
variable {H : Type} {enc : TypeId × Value → H} {W : World} {base : Nat} {spare : Nat → Bool} {held : Bool}

theorem Try.cellsBind : Try.prog.cellsOf 61 = 5 := by kernel_rfl

set_option maxRecDepth 100000 in
theorem read_bindC (m d : Nat) (hd : m ≤ d) (cs : List Value) (x : DataW H × List MemPlace) (h : DataW.trod enc Try.prog W base spare held m 61 cs = some x) (hl5 : cs.length = 5) : ∃ b : Bn d, BnR d W cs b ∧ WfB d b := by
  obtain ⟨c0, c1, c2, c3, c4, rfl⟩ : ∃ c0 c1 c2 c3 c4, cs = [c0, c1, c2, c3, c4] := by
    match cs, hl5 with
    | [c0, c1, c2, c3, c4], _ => exact ⟨c0, c1, c2, c3, c4, rfl⟩
  obtain ⟨xs, m, rfl, _, _, hl, hf⟩ := DataW.trod_struct Try.underlying61 h
  have hl2 : xs.length = 2 := hl
  have h0 : DataW.trod enc Try.prog W base spare held m 9 [c0] = xs[0]? := by have := hf 0 _ rfl; simpa [Try.cells9] using this
  have h1 : DataW.trod enc Try.prog W base spare held m 24 [c1, c2, c3, c4] = xs[1]? := by have := hf 1 _ rfl; simpa [Try.cells9, Try.cellsTerm] using this
  rw [List.getElem?_eq_getElem (by omega)] at h0 h1
  obtain ⟨s, e0, _, hs⟩ := DataW.trod_string Try.underlying9 h0
  simp only [List.cons.injEq, and_true] at e0
  subst e0
  obtain ⟨m', k, l, t, y, rfl, rfl, rfl, rfl, wk, wl, ws, hy⟩ := read_four h1
  obtain ⟨ts, hr, hw⟩ := read_terms m' d (by omega) c4 y hy
  exact ⟨(s, ((k, l, t, ts) : Int × Int × ByteArray × List (Tm d))), ⟨c4, rfl, hr⟩, hs, wk, wl, ws, hw⟩

set_option maxRecDepth 100000 in
theorem read_binds (m d : Nat) (hd : m ≤ d) (v : Value) (x : DataW H × List MemPlace) (h : DataW.trod enc Try.prog W base spare held m 37 [v] = some x) : ∃ bs : List (Bn d), RowOf 5 (BnR d) W v bs ∧ WfRow (WfB d) bs :=
  read_row (R := BnR d) (P := WfB d) Try.underlying37 Try.cellsBind (by omega) (fun n hn cs x hx hl => read_bindC n d (by omega) cs x hx hl) h
end

/-- What the law holds in hand: the model's answer, the program's, and the terms of both. -/
structure SB (d : Nat) (w Z : World) (iw ig : Nat) (k x : Int) (s : ByteArray) (aw : Option Addr) (lw cw : Nat) (ag : Option Addr) (lg cg : Nat) (ts tg : List (Tm d)) (fw fg : List Nat) : Prop where
  w0 : Z.heap[iw]? = some (.cells #[.int .i64 k, .int .i64 x, .string s, .slice aw lw cw] 29 (0, 0))
  g0 : Z.heap[ig]? = some (.cells #[.int .i64 k, .int .i64 x, .string s, .slice ag lg cg] 29 (0, 0))
  b : Below w.heap.size w Z
  oW : OwnL d Z (.slice aw lw cw) ts fw
  oG : OwnL d Z (.slice ag lg cg) tg fg

theorem SB.later {d : Nat} {w Z Z' : World} {iw ig : Nat} {k x : Int} {s : ByteArray} {aw : Option Addr} {lw cw : Nat} {ag : Option Addr} {lg cg : Nat} {ts tg : List (Tm d)} {fw fg : List Nat} (h : SB d w Z iw ig k x s aw lw cw ag lg cg ts tg fw fg) (hb : Below Z.heap.size Z Z') : SB d w Z' iw ig k x s aw lw cw ag lg cg ts tg fw fg :=
  ⟨(hb.block _ (lt_row h.w0)).trans h.w0, (hb.block _ (lt_row h.g0)).trans h.g0, h.b.trans (hb.mono h.b.size), h.oW.frame fun g hg => hb.block g (h.oW.lt g hg), h.oG.frame fun g hg => hb.block g (h.oG.lt g hg)⟩

/-- Something else was written into: blocks fp. -/
theorem SB.other {d : Nat} {w Z Z' : World} {iw ig : Nat} {k x : Int} {s : ByteArray} {aw : Option Addr} {lw cw : Nat} {ag : Option Addr} {lg cg : Nat} {ts tg : List (Tm d)} {fw fg fp : List Nat} (h : SB d w Z iw ig k x s aw lw cw ag lg cg ts tg fw fg) (hb : Wrote fp Z Z') (hw : iw ∉ fp) (hg : ig ∉ fp) (hbw : ∀ g ∈ fp, w.heap.size ≤ g) (h1 : ∀ g ∈ fw, g ∉ fp) (h2 : ∀ g ∈ fg, g ∉ fp) : SB d w Z' iw ig k x s aw lw cw ag lg cg ts tg fw fg :=
  ⟨(hb.block _ (lt_row h.w0) hw).trans h.w0, (hb.block _ (lt_row h.g0) hg).trans h.g0,
   h.b.trans ⟨hb.os, hb.tape, hb.output, hb.size, fun g hg => hb.block g (Nat.lt_of_lt_of_le hg h.b.size) (fun e => by have := hbw g e; omega)⟩,
   h.oW.frame fun g hg => hb.block g (h.oW.lt g hg) (h1 g hg), h.oG.frame fun g hg => hb.block g (h.oG.lt g hg) (h2 g hg)⟩

theorem SB.wrote {d : Nat} {w Z Z' : World} {iw ig : Nat} {k x : Int} {s : ByteArray} {aw : Option Addr} {lw cw : Nat} {ag : Option Addr} {lg cg : Nat} {ts tg tg' : List (Tm d)} {fw fg : List Nat} (h : SB d w Z iw ig k x s aw lw cw ag lg cg ts tg fw fg) (hb : Wrote fg Z Z') (hw : iw ∉ fg) (hg : ig ∉ fg) (hbw : ∀ g ∈ fg, w.heap.size ≤ g) (h1 : ∀ g ∈ fw, g ∉ fg) (ho : OwnL d Z' (.slice ag lg cg) tg' fg) : SB d w Z' iw ig k x s aw lw cw ag lg cg ts tg' fw fg :=
  ⟨(hb.block _ (lt_row h.w0) hw).trans h.w0, (hb.block _ (lt_row h.g0) hg).trans h.g0,
   h.b.trans ⟨hb.os, hb.tape, hb.output, hb.size, fun g hg => hb.block g (Nat.lt_of_lt_of_le hg h.b.size) (fun e => by have := hbw g e; omega)⟩,
   h.oW.frame fun g hg => hb.block g (h.oW.lt g hg) (h1 g hg), ho⟩

theorem SB.cells {d : Nat} {w Z : World} {iw ig : Nat} {k x : Int} {s : ByteArray} {aw : Option Addr} {lw cw : Nat} {ag : Option Addr} {lg cg : Nat} {ts tg : List (Tm d)} {fw fg : List Nat} (h : SB d w Z iw ig k x s aw lw cw ag lg cg ts tg fw fg) :
    (Z.cell? ⟨iw, 0, none⟩ = some (.int .i64 k) ∧ Z.cell? ⟨iw, 1, none⟩ = some (.int .i64 x) ∧ Z.cell? ⟨iw, 2, none⟩ = some (.string s) ∧ Z.cell? ⟨iw, 3, none⟩ = some (.slice aw lw cw)) ∧
    (Z.cell? ⟨ig, 0, none⟩ = some (.int .i64 k) ∧ Z.cell? ⟨ig, 1, none⟩ = some (.int .i64 x) ∧ Z.cell? ⟨ig, 2, none⟩ = some (.string s) ∧ Z.cell? ⟨ig, 3, none⟩ = some (.slice ag lg cg)) := by
  refine ⟨⟨?_, ?_, ?_, ?_⟩, ?_, ?_, ?_, ?_⟩
  · rw [cell_of_row Z _ 0 _ _ _ h.w0]; rfl
  · rw [cell_of_row Z _ 1 _ _ _ h.w0]; rfl
  · rw [cell_of_row Z _ 2 _ _ _ h.w0]; rfl
  · rw [cell_of_row Z _ 3 _ _ _ h.w0]; rfl
  · rw [cell_of_row Z _ 0 _ _ _ h.g0]; rfl
  · rw [cell_of_row Z _ 1 _ _ _ h.g0]; rfl
  · rw [cell_of_row Z _ 2 _ _ _ h.g0]; rfl
  · rw [cell_of_row Z _ 3 _ _ _ h.g0]; rfl

theorem FoundB.wf {d : Nat} {bs : List (Bn d)} {nm : ByteArray} {k n : Int} {s : ByteArray} {ts : List (Tm d)} {ok : Bool} (h : FoundB bs nm k n s ts ok) (hw : WfRow (WfB d) bs) : WfL d ts := by
  rcases h with ⟨_, i, b, h1, _, _, _, _, _, rfl⟩ | ⟨_, _, _, _, _, rfl⟩
  · exact (hw.2 b (List.mem_of_getElem? h1)).2.2.2.2
  · cases d with
    | zero => trivial
    | succ d => exact ⟨by simp, fun t ht => by simp at ht⟩

end Go.Proofs.Ytjdhkhpdhblhbaa
