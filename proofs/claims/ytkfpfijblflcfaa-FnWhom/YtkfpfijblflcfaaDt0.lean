/- Data of the later chapters: terms as parts of structs, lists of numbers; the law's own measure, copy and comparison of them. -/
import Derived.Test.YtkfpfijblflcfaaRow
import Derived.Test.YtkfpfijblflcfaaRowC
import Derived.Test.YtkfpfijblflcfaaAft
import Derived.Test.YtkfpfijblflcfaaEqT
import Derived.Test.YtkfpfijblflcfaaXRead0
import Derived.BigQuiet
namespace Go.Proofs.Ytkfpfijblflcfaa
open Go.RowKit Go.ChangeShapes Go.WideShapes Go.Joins Go.Deep
set_option linter.unusedVariables false

theorem RowOf.sl {α : Type} {k : Nat} {R : World → List Value → α → Prop} {w : World} {v : Value} {xs : List α} (h : RowOf k R w v xs) : ∃ a l c, v = .slice a l c := by
  obtain ⟨a, c, e, _⟩ := h
  exact ⟨a, _, c, e⟩
theorem OwnRow.sl {α : Type} {k : Nat} {T : TypeId} {O : World → List Value → α → List Nat → Prop} {w : World} {v : Value} {xs : List α} {fp : List Nat} (h : OwnRow k T O w v xs fp) : ∃ a l c, v = .slice a l c := by
  rcases h with ⟨_, _, a, c, rfl⟩ | ⟨g, c, cur, fps, rfl, _⟩
  · exact ⟨_, _, _, rfl⟩
  · exact ⟨_, _, _, rfl⟩

theorem RdL.len1 {d : Nat} {w : World} {v : Value} {ts : List (Tm (d + 1))} (h : RdL (d + 1) w v ts) : ∃ a c, v = .slice a ts.length c := by
  obtain ⟨a, c, e, _⟩ := h
  exact ⟨a, c, e⟩

/-- A term as a part of something. -/
def TmR (d : Nat) (w : World) (vs : List Value) (t : Tm (d + 1)) : Prop := ∃ lv, vs = [.int .i64 t.K, .int .i64 t.N, .string t.S, lv] ∧ RdL d w lv t.L
def TmO (d : Nat) (w : World) (vs : List Value) (t : Tm (d + 1)) (fp : List Nat) : Prop := ∃ lv, vs = [.int .i64 t.K, .int .i64 t.N, .string t.S, lv] ∧ OwnL d w lv t.L fp
def WfTm (d : Nat) (t : Tm (d + 1)) : Prop := I64 t.K ∧ I64 t.N ∧ t.S.size ≤ maxLen ∧ WfL d t.L
def szTm (d : Nat) (t : Tm (d + 1)) : Nat := t.S.size + szL d t.L
def ShTerm (vs : List Value) : Prop := ∃ (i0 i1 : Int) (s2 : ByteArray) (a3 : Option Addr) (l3 c3 : Nat), vs = [.int .i64 i0, .int .i64 i1, .string s2, .slice a3 l3 c3]

theorem TmR.lasts (d : Nat) : Lasts (TmR d) := by
  rintro w w' vs b ⟨lv, rfl, h⟩ hb
  exact ⟨lv, rfl, h.later hb⟩
theorem TmO.lasts (d : Nat) : LastsO (TmO d) := by
  rintro w w' vs b fp ⟨lv, rfl, h⟩ hb
  exact ⟨lv, rfl, h.frame hb⟩
theorem TmO.reads (d : Nat) : Reads (TmO d) (TmR d) := by
  rintro w vs b fp ⟨lv, rfl, h⟩
  exact ⟨lv, rfl, h.rd⟩
theorem TmR.shape (d : Nat) : ∀ w vs b, TmR d w vs b → ShTerm vs := by
  rintro w vs b ⟨lv, rfl, h⟩
  obtain ⟨a, l, c, rfl⟩ := h.shape
  exact ⟨_, _, _, _, _, _, rfl⟩
theorem TmO.shape (d : Nat) : ∀ w vs b fp, TmO d w vs b fp → ShTerm vs := fun w vs b fp h => TmR.shape d w vs b (TmO.reads d w vs b fp h)

theorem OwnL.sl : ∀ {d : Nat} {w : World} {v : Value} {ts : List (Tm d)} {fp : List Nat}, OwnL d w v ts fp → ∃ a l c, v = .slice a l c := fun h => h.rd.shape

/-- Numbers. -/
def InR (w : World) (vs : List Value) (n : Int) : Prop := vs = [.int .i64 n]
def InO (w : World) (vs : List Value) (n : Int) (fp : List Nat) : Prop := vs = [.int .i64 n] ∧ fp = []
theorem InR.lasts : Lasts InR := fun _ _ _ _ h _ => h
theorem InO.lasts : LastsO InO := fun _ _ _ _ _ h _ => h
theorem InO.reads : Reads InO InR := fun _ _ _ _ h => h.1
def szI (n : Int) : Nat := 0

def TellI (w : World) (v : Value) (l : List Int) : Prop := ∃ a c, v = .slice a l.length c ∧ ∀ (i : Nat) (s : Int), l[i]? = some s → ∃ b o, a = some ⟨b, o, none⟩ ∧ w.cell? ⟨b, o + i, none⟩ = some (.int .i64 s)
theorem row_tellI {w : World} {v : Value} {l : List Int} (h : RowOf 1 InR w v l) : TellI w v l := by
  obtain ⟨a, c, rfl, h1⟩ := h
  refine ⟨a, c, rfl, fun i s hs => ?_⟩
  obtain ⟨b, o, vs, h2, h3, h4, rfl⟩ := h1 i s hs
  have := h4 0 _ rfl
  rw [Nat.mul_one, Nat.add_zero] at this
  exact ⟨b, o, h2, this⟩

theorem szI_sum (xs : List Int) : szRow szI xs = xs.length := by
  unfold szRow
  have : (xs.map szI).sum = 0 := by
    induction xs with
    | nil => rfl
    | cons x xs ih => simp [szI, ih]
  omega

theorem Try.infoInt : (Try.prog.info? 3).map (fun i => (i.zero, i.size, i.bytes)) = some (some (.int .i64 0), 1, 8) := by kernel_rfl

theorem lft_neg (l : Int) (n : Nat) (h : lft l n < 0) : lft l n = -1 := by
  unfold lft at h ⊢
  by_cases q : (n : Int) ≤ l
  · rw [if_pos q] at h; omega
  · rw [if_neg q]

theorem Try.cellsInts : Try.prog.cellsOf 25 = 1 := by kernel_rfl
theorem Try.cells4 : Try.prog.cellsOf 4 = 1 := by kernel_rfl

section
variable {H : Type} {enc : TypeId × Value → H} {W : World} {base : Nat} {spare : Nat → Bool} {held : Bool}

theorem read_ints {m : Nat} {v : Value} {x : DataW H × List MemPlace} (h : DataW.trod enc Try.prog W base spare held m 25 [v] = some x) : ∃ l : List Int, RowOf 1 InR W v l ∧ WfRow I64 l :=
  read_row (R := InR) (P := I64) Try.underlying25 Try.cells3 (by omega) (fun n hn cs x hx hl => by
    obtain ⟨c, rfl⟩ : ∃ c, cs = [c] := by
      match cs, hl with
      | [c], _ => exact ⟨c, rfl⟩
    obtain ⟨t, e, _, ht⟩ := DataW.trod_int Try.underlying3 hx
    simp only [List.cons.injEq, and_true] at e
    subst e
    exact ⟨t, rfl, bounds_i64 ht⟩) h

end

end Go.Proofs.Ytkfpfijblflcfaa
