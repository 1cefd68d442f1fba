/- A struct of the laws as data: Ins; the law's own measure, copy and comparison of it; how it is read. -/
import Derived.Test.YtfachfimdenapaaDoorTmM
import Derived.Test.YtfachfimdenapaaDoorXm2M
import Derived.Test.YtfachfimdenapaaDoorRowInsM
namespace Go.Proofs.YtfachfimdenapaaDoor
open Go.RowKit Go.ChangeShapes Go.WideShapes Go.Joins Go.Deep
set_option linter.unusedVariables false

structure DIns where
  Op : Int
  N : Int
  S : ByteArray
  To : Int


def InsR (w : World) (vs : List Value) (x : DIns) : Prop := vs = [.int .i64 x.Op, .int .i64 x.N, .string x.S, .int .i64 x.To]

def InsO (w : World) (vs : List Value) (x : DIns) (fp : List Nat) : Prop := vs = [.int .i64 x.Op, .int .i64 x.N, .string x.S, .int .i64 x.To] ∧ fp = []

def WfIns (x : DIns) : Prop := I64 x.Op ∧ I64 x.N ∧ x.S.size ≤ maxLen ∧ I64 x.To

def szInsD (x : DIns) : Nat := x.S.size

theorem InsR.lasts : Lasts (InsR) := by
  rintro w w' vs x rfl hb
  exact rfl

theorem InsO.lasts : LastsO (InsO) := by
  rintro w w' vs x fp ⟨rfl, rfl⟩ hb
  exact ⟨rfl, rfl⟩

theorem InsO.reads : Reads (InsO) (InsR) := by
  rintro w vs x fp ⟨rfl, rfl⟩
  exact rfl

theorem InsR.shape : ∀ w vs x, InsR w vs x → ShIns vs := by
  rintro w vs x rfl
  exact ⟨_, _, _, _, rfl⟩

theorem InsO.shape : ∀ w vs x fp, InsO w vs x fp → ShIns vs := fun w vs x fp h => InsR.shape w vs x (InsO.reads w vs x fp h)

set_option maxHeartbeats 4000000 in
theorem szIns_any : SzEl 60 (InsR) (WfIns) (szInsD) := by
  rintro vs x left w rfl ⟨wOp, wN, wS, wTo⟩ hl0 hm
  have hsS : x.S.size ≤ 9223372036854775807 := by unfold maxLen at wS; omega
  obtain ⟨W, hW⟩ : ∃ W, W = w.alloc (Obj.cells #[.int .i64 x.Op, .int .i64 x.N, .string x.S, .int .i64 x.To] 98) := ⟨_, rfl⟩
  have hA : Below w.heap.size w W := by rw [hW]; exact (Below.refl _ _).alloc (Nat.le_refl _) _
  have hWc : W.heap[w.heap.size]? = some (Obj.cells #[.int .i64 x.Op, .int .i64 x.N, .string x.S, .int .i64 x.To] 98 (0, 0)) := by rw [hW]; exact heap_alloc_new w _
  have e0 : szInsD x = x.S.size := by rfl
  rw [e0]
  obtain ⟨TL, hTL⟩ : ∃ L, lft left (x.S.size) = L := ⟨_, rfl⟩
  rw [hTL]
  have HW : Hid (W = _) := hW
  have HT0 : Hid (TL = lft left (x.S.size)) := hTL.symm
  have HB0 : Hid (Below w.heap.size w W ∧ W.heap[w.heap.size]? = some (Obj.cells #[.int .i64 x.Op, .int .i64 x.N, .string x.S, .int .i64 x.To] 98 (0, 0))) := ⟨hA, hWc⟩
  clear e0 hTL hW hA hWc 
  by_cases hlt2 : left < (x.S.size : Int)
  · have HF : Hid ((-1 : Int) = TL) := by show _ = _; rw [HT0.out]; unfold lft; rw [if_neg (by omega)]
    go_enter Tryd.func60, Tryd.ntmps60
    go_wp2
    go_ret
    exact ⟨tret1 HF.out, (by have := HB0.out.1; rw [HW.out] at this; exact this)⟩
  · have HF : Hid ((left - (x.S.size : Int)) = TL) := by show _ = _; rw [HT0.out]; unfold lft; rw [if_pos (by omega)]
    go_enter Tryd.func60, Tryd.ntmps60
    go_wp2
    go_ret
    exact ⟨tret1 HF.out, (by have := HB0.out.1; rw [HW.out] at this; exact this)⟩

theorem szInsS_any : SzLs 46 4 (InsR) (WfIns) (szInsD) := szInsS_of _ _ _ InsR.lasts (InsR.shape) (szIns_any)

set_option maxHeartbeats 4000000 in
theorem toIns_any : ToEl 67 (InsR) (InsO) (WfIns) (szInsD) := by
  rintro vs x w rfl ⟨wOp, wN, wS, wTo⟩ hz
  have hz' : x.S.size ≤ 1048576 := hz
  obtain ⟨W, hW⟩ : ∃ W, W = ((w.alloc (Obj.cells #[.int .i64 x.Op, .int .i64 x.N, .string x.S, .int .i64 x.To] 98)).alloc (.cells #[.int .i64 0, .int .i64 0, .string ⟨#[]⟩, .int .i64 0] 48)).alloc (.cells #[.int .i64 x.Op, .int .i64 x.N, .string x.S, .int .i64 x.To] 48) := ⟨_, rfl⟩
  obtain ⟨nA, nB, nC⟩ := heap_three w (Obj.cells #[.int .i64 x.Op, .int .i64 x.N, .string x.S, .int .i64 x.To] 98) (.cells #[.int .i64 0, .int .i64 0, .string ⟨#[]⟩, .int .i64 0] 48) (.cells #[.int .i64 x.Op, .int .i64 x.N, .string x.S, .int .i64 x.To] 48)
  rw [← hW] at nA nB nC
  have hWb : Below w.heap.size w W := by rw [hW]; exact (((Below.refl _ _).alloc (Nat.le_refl _) _).alloc (by simp) _).alloc (by simp; omega) _
  have hWs : W.heap.size = w.heap.size + 1 + 1 + 1 := by rw [hW]; simp
  clear hW nA nB nC hWs hz hz' hWb
  go_enter Tryd.func67, Tryd.ntmps67
  go_wp2_with fail
  refine bodyPost_ret (v := .agg #[.int .i64 x.Op, .int .i64 x.N, .string x.S, .int .i64 x.To]) (by first | (simp [results, Tryd.results67, go_sem]; done) | (simp [results, Tryd.results67, go_sem]; rfl)) rfl ⟨[.int .i64 x.Op, .int .i64 x.N, .string x.S, .int .i64 x.To], [], rfl, ⟨rfl, rfl⟩, ⟨List.nodup_nil, fun g hg => by cases hg⟩, ?_⟩
  exact (((Below.refl _ _).alloc (Nat.le_refl _) _).alloc (by simp) _).alloc (by simp; omega) _

theorem toInsS_any : ToLs 54 4 48 (InsR) (InsO) (WfIns) (szInsD) := toInsS_of _ _ _ _ (InsR.lasts) (InsO.lasts) (InsR.shape) (InsO.shape) (toIns_any)

set_option maxHeartbeats 4000000 in
theorem eqIns_any : EqEl 74 (InsR) (WfIns) := by
  rintro vs1 vs2 x w rfl rfl ⟨wOp, wN, wS, wTo⟩
  obtain ⟨W, hW⟩ : ∃ W, W = (w.alloc (Obj.cells #[.int .i64 x.Op, .int .i64 x.N, .string x.S, .int .i64 x.To] 48)).alloc (Obj.cells #[.int .i64 x.Op, .int .i64 x.N, .string x.S, .int .i64 x.To] 48) := ⟨_, rfl⟩
  have hA : Below w.heap.size w W := by rw [hW]; exact ((Below.refl _ _).alloc (Nat.le_refl _) _).alloc (by simp) _
  have n1 : W.heap[w.heap.size]? = some (Obj.cells #[.int .i64 x.Op, .int .i64 x.N, .string x.S, .int .i64 x.To] 48 (0, 0)) := by rw [hW, Below.heap_alloc _ _ _ (by simp)]; exact heap_alloc_new w _
  have n2 : W.heap[w.heap.size + 1]? = some (Obj.cells #[.int .i64 x.Op, .int .i64 x.N, .string x.S, .int .i64 x.To] 48 (0, 0)) := by rw [hW]; have := heap_alloc_new (w.alloc (Obj.cells #[.int .i64 x.Op, .int .i64 x.N, .string x.S, .int .i64 x.To] 48)) (Obj.cells #[.int .i64 x.Op, .int .i64 x.N, .string x.S, .int .i64 x.To] 48); simpa using this
  have HW : Hid (W = _) := hW
  have HN : Hid (Below w.heap.size w W ∧ _ ∧ _) := ⟨hA, n1, n2⟩
  clear n1 n2 
  rw [hW] at hA
  clear hW HN HW
  go_enter Tryd.func74, Tryd.ntmps74
  go_wp2
  go_ret
  exact ⟨rfl, hA⟩

theorem eqInsS_any : EqLs 59 4 (InsR) (WfIns) := eqInsS_of _ _ (InsR.lasts) (InsR.shape) (eqIns_any)

theorem Ins_at {n c : Nat} {w : World} {a : Option Addr} {m : List DIns} (h : RowOf 4 (InsR) w (.slice a n c) m) (i : Nat) (x : DIns) (hx : m[i]? = some x) : ∃ (b o : Nat) , a = some ⟨b, o, none⟩ ∧ w.cell? ⟨b, o + i * 4, none⟩ = some (.int .i64 x.Op) ∧ w.cell? ⟨b, o + i * 4 + 1, none⟩ = some (.int .i64 x.N) ∧ w.cell? ⟨b, o + i * 4 + 2, none⟩ = some (.string x.S) ∧ w.cell? ⟨b, o + i * 4 + 3, none⟩ = some (.int .i64 x.To) := by
  obtain ⟨a', c', e, hel⟩ := h
  cases e
  obtain ⟨b, o, vs, h2, h3, h4, rfl⟩ := hel i x hx
  exact ⟨b, o, h2, h4 0 _ rfl, h4 1 _ rfl, h4 2 _ rfl, h4 3 _ rfl⟩

theorem Tryd.cellsIns : Tryd.prog.cellsOf 98 = 4 := by kernel_rfl
theorem Tryd.cellsInss : Tryd.prog.cellsOf 63 = 1 := by kernel_rfl
section
variable {H : Type} {enc : TypeId × Value → H} {W : World} {base : Nat} {spare : Nat → Bool} {held : Bool}

set_option maxRecDepth 100000 in
theorem read_InsC (m : Nat) (cs : List Value) (x : DataW H × List MemPlace) (h : DataW.trod enc Tryd.prog W base spare held m 98 cs = some x) (hl : cs.length = 4) : ∃ f : DIns, InsR W cs f ∧ WfIns f := by
  obtain ⟨c0, c1, c2, c3, rfl⟩ : ∃ c0 c1 c2 c3, cs = [c0, c1, c2, c3] := by
    match cs, hl with
    | [c0, c1, c2, c3], _ => exact ⟨c0, c1, c2, c3, rfl⟩
  obtain ⟨xs, m, rfl, _, _, hxl, hf⟩ := DataW.trod_struct Tryd.underlying98 h
  have hxl' : xs.length = 4 := hxl
  have h0 : DataW.trod enc Tryd.prog W base spare held m 3 [c0] = xs[0]? := by have := hf 0 _ rfl; simpa [Tryd.cells3, Tryd.cells9] using this
  have h1 : DataW.trod enc Tryd.prog W base spare held m 3 [c1] = xs[1]? := by have := hf 1 _ rfl; simpa [Tryd.cells3, Tryd.cells9] using this
  have h2 : DataW.trod enc Tryd.prog W base spare held m 9 [c2] = xs[2]? := by have := hf 2 _ rfl; simpa [Tryd.cells3, Tryd.cells9] using this
  have h3 : DataW.trod enc Tryd.prog W base spare held m 3 [c3] = xs[3]? := by have := hf 3 _ rfl; simpa [Tryd.cells3, Tryd.cells9] using this
  rw [List.getElem?_eq_getElem (by omega)] at h0 h1 h2 h3
  obtain ⟨x0, e0, _, q0⟩ := DataW.trod_int Tryd.underlying3 h0
  obtain ⟨x1, e1, _, q1⟩ := DataW.trod_int Tryd.underlying3 h1
  obtain ⟨x2, e2, _, q2⟩ := DataW.trod_string Tryd.underlying9 h2
  obtain ⟨x3, e3, _, q3⟩ := DataW.trod_int Tryd.underlying3 h3
  simp only [List.cons.injEq, and_true] at e0 e1 e2 e3
  subst e0 e1 e2 e3
  exact ⟨⟨x0, x1, x2, x3⟩, rfl, bounds_i64 q0, bounds_i64 q1, q2, bounds_i64 q3⟩

theorem read_Inss {m : Nat} {v : Value} {x : DataW H × List MemPlace} (h : DataW.trod enc Tryd.prog W base spare held m 63 [v] = some x) : ∃ l : List DIns, RowOf 4 (InsR) W v l ∧ WfRow (WfIns) l :=
  read_row (R := InsR) (P := WfIns) Tryd.underlying63 Tryd.cellsIns (by omega) (fun n hn cs x hx hl => read_InsC n  cs x hx hl) h
end

end Go.Proofs.YtfachfimdenapaaDoor
