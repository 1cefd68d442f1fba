/- The walk through a term: what it comes to. -/
import Derived.Test.YtbllnmafilabpaaMOf2M
import Derived.Test.YtbllnmafilabpaaSGetM
import Derived.Deep.RegionWith
import Derived.Deep.DeepCutAuto
import Derived.Deep.CutRange
namespace Go.Proofs.Ytbllnmafilabpaa
open Go.RowKit
set_option linter.unusedVariables false

/-- The cells of what is under way, the outermost first. -/
def fcells (fs : List Frm) : List Value := (fs.reverse.map fun f => [f.1, .int .i64 (f.2.1 : Nat), .int .i64 (f.2.2.1 : Nat), .int .i64 (f.2.2.2 : Nat)]).flatten

theorem fcells_cons (f : Frm) (fs : List Frm) : fcells (f :: fs) = fcells fs ++ [f.1, .int .i64 (f.2.1 : Nat), .int .i64 (f.2.2.1 : Nat), .int .i64 (f.2.2.2 : Nat)] := by
  unfold fcells
  simp

theorem fcells_len (fs : List Frm) : (fcells fs).length = fs.length * 4 := by
  induction fs with
  | nil => rfl
  | cons f fs ih => rw [fcells_cons, List.length_append, ih]; simp only [List.length_cons, List.length_nil]; omega

end Go.Proofs.Ytbllnmafilabpaa

/- The walk through a term: the loop. -/
namespace Go.Proofs.Ytbllnmafilabpaa
open Go.RowKit
set_option linter.unusedVariables false

/-- Each list that is under way but the outermost has some, in memory whose places may be held against each other. -/
def Solid (w : World) : List Frm → Prop
  | [] => True
  | [_] => True
  | f :: g :: r => (∃ b o len cp, f.1 = .slice (some ⟨b, o, none⟩) len cp ∧ 0 < len ∧ Plain w ⟨b, o, none⟩) ∧ Solid w (g :: r)

theorem Solid.turn {w : World} {v : Value} {nx c p nx' c' p' : Nat} {rest : List Frm} (h : Solid w ((v, nx, c, p) :: rest)) : Solid w ((v, nx', c', p') :: rest) := by
  cases rest with
  | nil => trivial
  | cons g r => exact h

theorem len_cnt {d : Nat} (ts : List (Tm d)) : ts.length ≤ cntL d ts := by
  cases d with
  | zero => rw [tm0 ts]; exact Nat.zero_le _
  | succ d =>
    show ts.length ≤ (List.map _ _).sum
    induction ts with
    | nil => exact Nat.zero_le _
    | cons u us ih => simp only [List.length_cons, List.map_cons, List.sum_cons]; omega

theorem Stk.topLen {w : World} {C P W nx c p len cp lo ac ap : Nat} {a : Option Addr} {rest : List Frm} (h : Stk w C P ((.slice a len cp, nx, c, p) :: rest) lo ac ap W) : len ≤ C := by
  obtain ⟨T, D, rc, rp, W', ⟨d, ts, h1, h2, h3, _⟩, _, _, _, h5, _⟩ := h
  have hb := h5.bd.1
  have := len_cnt ts
  obtain ⟨a1, c1, e⟩ := h1.len
  simp only [Value.slice.injEq] at e
  omega

theorem wrap_m3 (m : Nat) (h : m ≤ 1099511627776) : IntKind.i64.wrap (m : Int) = (m : Int) := by rw [IntKind.wrap_i64]; omega
theorem wrap_m4 (m : Nat) (h : m ≤ 1099511627776) : wrap64 (m : Int) = (m : Int) := by unfold wrap64; omega
theorem wrap_m2 (m : Nat) (h : m ≤ 1099511627776) : IntKind.i64.wrap ((m : Int) + 1 - 1) = (m : Int) := by rw [IntKind.wrap_i64]; omega

theorem exists_min {p : Nat → Prop} (h : ∃ n, p n) : ∃ n, p n ∧ ∀ m, p m → n ≤ m := by
  obtain ⟨n, hn⟩ := h
  induction n using Nat.strongRecOn with
  | ind n ih =>
    by_cases h : ∃ m, m < n ∧ p m
    · obtain ⟨m, h1, h2⟩ := h
      exact ih m h1 h2
    · exact ⟨n, hn, fun m hm => Nat.le_of_not_lt fun hl => h ⟨m, hl, hm⟩⟩

/-- What stands at a place of two slots and a world, with work to be done: there is a measure of it. -/
theorem least_work (p : Value → Value → World → Nat → Prop) : ∃ μ : Value → Value → World → Nat, ∀ a b c n, p a b c n → p a b c (μ a b c) ∧ μ a b c ≤ n := by
  have h : ∀ x : Value × Value × World, ∃ m, ∀ n, p x.1 x.2.1 x.2.2 n → p x.1 x.2.1 x.2.2 m ∧ m ≤ n := fun x => by
    by_cases hx : ∃ n, p x.1 x.2.1 x.2.2 n
    · obtain ⟨m, h1, h2⟩ := exists_min hx
      exact ⟨m, fun n hn => ⟨h1, h2 n hn⟩⟩
    · exact ⟨0, fun n hn => absurd ⟨n, hn⟩ hx⟩
  obtain ⟨g, hg⟩ := Classical.axiomOfChoice h
  exact ⟨fun a b c => g (a, b, c), fun a b c n hn => hg (a, b, c) n hn⟩

end Go.Proofs.Ytbllnmafilabpaa

/- How many and how deep, by the program: what its two functions tell. -/
namespace Go.Proofs.Ytbllnmafilabpaa
open Go.RowKit
set_option linter.unusedVariables false

/-- A term out of its fields. -/
def mkT {d : Nat} (k n : Int) (s : ByteArray) (ts : List (Tm d)) : Tm (d + 1) := (k, n, s, ts)

/-- A list of one term that has just been laid. -/
theorem one_rdq {d : Nat} {w : World} {k n : Int} {s : ByteArray} {l : Value} {ts : List (Tm d)} (hr : RdQ d w l ts) : RdQ (d + 1) (w.alloc (.cells #[.int .i64 k, .int .i64 n, .string s, l] 26)) (.slice (some ⟨w.heap.size, 0, none⟩) 1 1) [mkT k n s ts] := by
  have hn := heap_alloc_new w (.cells #[.int .i64 k, .int .i64 n, .string s, l] 26)
  refine ⟨some ⟨w.heap.size, 0, none⟩, 1, rfl, fun i t ht => ?_⟩
  cases i with
  | zero =>
    have e : t = mkT k n s ts := by simpa using ht.symm
    subst e
    have hc := fun j => cell_of_row (w.alloc (.cells #[.int .i64 k, .int .i64 n, .string s, l] 26)) w.heap.size j _ 26 (0, 0) hn
    exact ⟨w.heap.size, 0, l, rfl, ⟨_, _, hn⟩, ⟨by rw [hc]; rfl, by rw [hc]; rfl, by rw [hc]; rfl, by rw [hc]; rfl⟩, hr.later ((Below.refl _ _).alloc (Nat.le_refl _) _)⟩
  | succ i => simp at ht

theorem one_cnt {d : Nat} (k n : Int) (s : ByteArray) (ts : List (Tm d)) : cntL (d + 1) [mkT k n s ts] = 1 + cntL d ts ∧ depL (d + 1) [mkT k n s ts] = 1 + depL d ts := by
  rw [cntL_cons, depL_cons, cntL_nil, depL_nil]
  exact ⟨rfl, by show max (1 + depL d ts) 0 = _; omega⟩

end Go.Proofs.Ytbllnmafilabpaa
