/- What the law on GetTerm holds in hand. -/
import Derived.Test.YthjmbbpakidkdaaSGet4
import Derived.Test.YthjmbbpakidkdaaLawT
namespace Go.Proofs.Ythjmbbpakidkdaa
open Go.RowKit
set_option linter.unusedVariables false

/-- What the bytes come to as a term. -/
def GA (zs : List Int) (n : Nat) (k x : Int) (s : ByteArray) (ts : List (Tm 7)) (ok : Bool) : Prop :=
  (ok = true ∧ getT zs 8 0 = some (((k, x, s, ts) : Int × Int × ByteArray × List (Tm 7)), (n : Int)) ∧ Right 7 k x s ts 8 300) ∨
  (ok = false ∧ k = 0 ∧ x = 0 ∧ s = ByteArray.empty ∧ ts = [] ∧ ¬ ∃ t : Tm 8, getT zs 8 0 = some (t, (n : Int)) ∧ Right 7 t.K t.N t.S t.L 8 300)

theorem GA.same {zs : List Int} {n : Nat} {k x k' x' : Int} {s s' : ByteArray} {ts ts' : List (Tm 7)} {ok ok' : Bool} (h : GA zs n k x s ts ok) (h' : GA zs n k' x' s' ts' ok') : k = k' ∧ x = x' ∧ s = s' ∧ ts = ts' ∧ ok = ok' := by
  rcases h with ⟨rfl, h1, h2⟩ | ⟨rfl, rfl, rfl, rfl, rfl, h1⟩
  · rcases h' with ⟨rfl, g1, g2⟩ | ⟨rfl, rfl, rfl, rfl, rfl, g1⟩
    · rw [h1] at g1
      have e : ((k, x, s, ts) : Int × Int × ByteArray × List (Tm 7)) = (k', x', s', ts') := congrArg Prod.fst (Option.some.inj g1)
      exact ⟨congrArg (fun t => t.1) e, congrArg (fun t => t.2.1) e, congrArg (fun t => t.2.2.1) e, congrArg (fun t => t.2.2.2) e, rfl⟩
    · exact absurd ⟨_, h1, h2⟩ g1
  · rcases h' with ⟨rfl, g1, g2⟩ | ⟨rfl, rfl, rfl, rfl, rfl, g1⟩
    · exact absurd ⟨_, g1, g2⟩ h1
    · exact ⟨rfl, rfl, rfl, rfl, rfl⟩

theorem GA.cnt {zs : List Int} {n : Nat} {k x : Int} {s : ByteArray} {ts : List (Tm 7)} {ok : Bool} (h : GA zs n k x s ts ok) : cntL 7 ts ≤ 300 := by
  rcases h with ⟨_, _, h⟩ | ⟨_, _, _, _, rfl, _⟩
  · have := h.2.2.2; omega
  · exact Nat.zero_le _

theorem own_none (w : World) : OwnL 7 w (.slice none 0 0) ([] : List (Tm 7)) [] := by
  obtain ⟨a, l, c, fp, e, h, f, _⟩ := (made_nil 7 w.heap.size w).own
  have : fp = [] := by
    cases fp with
    | nil => rfl
    | cons g r => have := f.2 g (List.mem_cons_self ..); omega
  rw [this] at h
  exact h

theorem wf_nil : WfL 7 ([] : List (Tm 7)) := by
  obtain ⟨a, l, c, fp, e, h, f, g⟩ := (made_nil 7 0 default).own
  exact g

/-- What GetTerm hands back, the same for both ends. -/
theorem gpost_own {zs : List Int} {n : Nat} {w w' : World} {k x : Int} {s : ByteArray} {a : Option Addr} {l c : Nat} {ok : Bool} (h : GPost zs n w w' k x s a l c ok) :
    ∃ (ts : List (Tm 7)) (fp : List Nat), OwnL 7 w' (.slice a l c) ts fp ∧ Fresh w.heap.size w' fp ∧ WfL 7 ts ∧ GA zs n k x s ts ok ∧ Below w.heap.size w w' := by
  obtain ⟨h1, h2, h3⟩ := h
  cases ok
  · obtain ⟨rfl, rfl, rfl, rfl, rfl, rfl, hn⟩ := h3 rfl
    exact ⟨[], [], own_none w', ⟨List.nodup_nil, fun g hg => absurd hg (by simp)⟩, wf_nil, .inr ⟨rfl, rfl, rfl, rfl, rfl, hn⟩, h1⟩
  · obtain ⟨ts, fp, q1, q2, q3, _, _, _, q4, q5⟩ := h2 rfl
    exact ⟨ts, fp, q1, q2, q3, .inl ⟨rfl, q4, q5⟩, h1⟩

/-- What the law holds in hand: the model's answer, the program's, and the terms of both. -/
structure SG (w Z : World) (iw ig : Nat) (k x : Int) (s : ByteArray) (aw : Option Addr) (lw cw : Nat) (ag : Option Addr) (lg cg : Nat) (ts tg : List (Tm 7)) (fw fg : List Nat) : Prop where
  w0 : Z.heap[iw]? = some (.cells #[.int .i64 k, .int .i64 x, .string s, .slice aw lw cw] 26 (0, 0))
  g0 : Z.heap[ig]? = some (.cells #[.int .i64 k, .int .i64 x, .string s, .slice ag lg cg] 26 (0, 0))
  b : Below w.heap.size w Z
  oW : OwnL 7 Z (.slice aw lw cw) ts fw
  oG : OwnL 7 Z (.slice ag lg cg) tg fg

theorem SG.later {w Z Z' : World} {iw ig : Nat} {k x : Int} {s : ByteArray} {aw : Option Addr} {lw cw : Nat} {ag : Option Addr} {lg cg : Nat} {ts tg : List (Tm 7)} {fw fg : List Nat} (h : SG w Z iw ig k x s aw lw cw ag lg cg ts tg fw fg) (hb : Below Z.heap.size Z Z') : SG w Z' iw ig k x s aw lw cw ag lg cg ts tg fw fg :=
  ⟨(hb.block _ (lt_of_row h.w0)).trans h.w0, (hb.block _ (lt_of_row h.g0)).trans h.g0, h.b.trans (hb.mono h.b.size), h.oW.frame fun g hg => hb.block g (h.oW.lt g hg), h.oG.frame fun g hg => hb.block g (h.oG.lt g hg)⟩

theorem SG.grown {w Z Z' : World} {iw ig : Nat} {k x : Int} {s : ByteArray} {aw : Option Addr} {lw cw : Nat} {ag : Option Addr} {lg cg : Nat} {ts tg : List (Tm 7)} {fw fg : List Nat} {bx : Nat} (h : SG w Z iw ig k x s aw lw cw ag lg cg ts tg fw fg) (hb : Z.grownBy Z' (some bx)) (hw : iw ≠ bx) (hg : ig ≠ bx) (hbw : w.heap.size ≤ bx) (h1 : ∀ g ∈ fw, g ≠ bx) (h2 : ∀ g ∈ fg, g ≠ bx) : SG w Z' iw ig k x s aw lw cw ag lg cg ts tg fw fg :=
  ⟨(hb.block _ (lt_of_row h.w0) (fun e => hw (Option.some.inj e))).trans h.w0, (hb.block _ (lt_of_row h.g0) (fun e => hg (Option.some.inj e))).trans h.g0,
   h.b.trans ⟨hb.os, hb.tape, hb.output, hb.size, fun g hg => hb.block g (Nat.lt_of_lt_of_le hg h.b.size) (fun e => by have := Option.some.inj e; omega)⟩,
   h.oW.frame fun g hg => hb.block g (h.oW.lt g hg) (fun e => h1 g hg (Option.some.inj e)), h.oG.frame fun g hg => hb.block g (h.oG.lt g hg) (fun e => h2 g hg (Option.some.inj e))⟩

theorem SG.wrote {w Z Z' : World} {iw ig : Nat} {k x : Int} {s : ByteArray} {aw : Option Addr} {lw cw : Nat} {ag : Option Addr} {lg cg : Nat} {ts tg tg' : List (Tm 7)} {fw fg : List Nat} (h : SG w Z iw ig k x s aw lw cw ag lg cg ts tg fw fg) (hb : Wrote fg Z Z') (hw : iw ∉ fg) (hg : ig ∉ fg) (hbw : ∀ g ∈ fg, w.heap.size ≤ g) (h1 : ∀ g ∈ fw, g ∉ fg) (ho : OwnL 7 Z' (.slice ag lg cg) tg' fg) : SG w Z' iw ig k x s aw lw cw ag lg cg ts tg' fw fg :=
  ⟨(hb.block _ (lt_of_row h.w0) hw).trans h.w0, (hb.block _ (lt_of_row h.g0) hg).trans h.g0,
   h.b.trans ⟨hb.os, hb.tape, hb.output, hb.size, fun g hg => hb.block g (Nat.lt_of_lt_of_le hg h.b.size) (fun e => by have := hbw g e; omega)⟩,
   h.oW.frame fun g hg => hb.block g (h.oW.lt g hg) (h1 g hg), ho⟩

end Go.Proofs.Ythjmbbpakidkdaa
