/- Maps whose keys are a pointer and a number: what a look-up and a store come to. -/
import Derived.Maps.OwnSet
import Derived.LaidEqlPtr
import Derived.WideKeyRuns
namespace Go.Proofs.Ytkfpfijblflcfaa
open Go.RowKit Go.ChangeMaps Go.MapKept Go.WideShapes
set_option linter.unusedVariables false

/-- A key: where a list begins, and how many it has. -/
def skey (x : Addr) (n : Int) : Value := .agg #[.pointer (some x), .int .i64 n]

/-- An address that may be held against another one. -/
def Plain (w : World) (x : Addr) : Prop := ∃ c t, w.heap[x.block]? = some (.cells c t (0, 0))

/-- What is asked of the type of the keys. -/
structure SpotTy (P : Program) (k : TypeId) : Prop where
  wide : (match P.underlying k with | some (.array _ _) | some (.struct _) => true | _ => false) = true
  eq : ∀ (w : World) (x y : Addr) (n m : Int), Plain w x → Plain w y → (Op.equal k (skey x n) (skey y m)).run P w = .ok (decide (x = y ∧ n = m)) w
  chk : ∀ (w : World) (em : Bool) (x : Addr) (n : Int), (Instr.checkKey em 10000 k (skey x n)).run P w = .ok () w

abbrev SEnt := Addr × Int × Value

def sget (l : List SEnt) (x : Addr) (n : Int) : Option Value := (l.find? fun q => decide (x = q.1 ∧ n = q.2.1)).map (·.2.2)

theorem sget_cons (q : SEnt) (l : List SEnt) (x : Addr) (n : Int) : sget (q :: l) x n = if x = q.1 ∧ n = q.2.1 then some q.2.2 else sget l x n := by
  unfold sget
  by_cases h : x = q.1 ∧ n = q.2.1
  · simp [h]
  · rw [List.find?_cons, if_neg h]
    have : decide (x = q.1 ∧ n = q.2.1) = false := decide_eq_false h
    simp only [this]

def entV (e : MapEntry) : Value × Value := (e.key, e.val)
def sntV (q : SEnt) : Value × Value := (skey q.1 q.2.1, q.2.2)

theorem run_find {P : Program} {k : TypeId} (S : SpotTy P k) (w : World) (x : Addr) (n : Int) (hx : Plain w x) : ∀ (l : List SEnt) (es : List MapEntry) (i : Nat), es.map entV = l.map sntV → (∀ q ∈ l, Plain w q.1) →
    ((Instr.findAsking k (skey x n) es i).run P w = .ok none w ∧ sget l x n = none ∧ ∀ v' y m, sget (l ++ [(x, n, v')]) y m = if y = x ∧ m = n then some v' else sget l y m) ∨
    ∃ j v, (Instr.findAsking k (skey x n) es i).run P w = .ok (some (i + j, v)) w ∧ sget l x n = some v ∧ l[j]? = some (x, n, v) ∧ ∀ v' y m, sget (l.set j (x, n, v')) y m = if y = x ∧ m = n then some v' else sget l y m
  | [], es, i, he, _ => by
    have : es = [] := by simpa using he
    subst this
    refine .inl ⟨by simp [Instr.findAsking], rfl, fun v' y m => ?_⟩
    rw [List.nil_append, sget_cons]
  | q :: l, es, i, he, hall => by
    cases es with
    | nil => simp at he
    | cons e es =>
      simp only [List.map_cons, List.cons.injEq] at he
      obtain ⟨h1, h2⟩ := he
      have hk : e.key = skey q.1 q.2.1 := congrArg Prod.fst h1
      have hv : e.val = q.2.2 := congrArg Prod.snd h1
      have hr := S.eq w x q.1 n q.2.1 hx (hall q (by simp))
      by_cases hq : x = q.1 ∧ n = q.2.1
      · right
        refine ⟨0, q.2.2, ?_, ?_, ?_, fun v' y m => ?_⟩
        · rw [decide_eq_true hq] at hr
          simp [Instr.findAsking, hk, hr, hv]
        · rw [sget_cons, if_pos hq]
        · obtain ⟨rfl, rfl⟩ := hq; rfl
        · rw [List.set_cons_zero, sget_cons, sget_cons]
          by_cases hy : y = x ∧ m = n
          · rw [if_pos hy, if_pos hy]
          · rw [if_neg hy, if_neg hy, if_neg (by rw [← hq.1, ← hq.2]; exact hy)]
      · rw [decide_eq_false hq] at hr
        rcases run_find S w x n hx l es (i + 1) h2 (fun y hy => hall y (by simp [hy])) with ⟨r1, r2, r3⟩ | ⟨j, v, r1, r2, r3, r4⟩
        · refine .inl ⟨by simp [Instr.findAsking, hk, hr, r1], by rw [sget_cons, if_neg hq]; exact r2, fun v' y m => ?_⟩
          rw [List.cons_append, sget_cons, sget_cons, r3]
          by_cases hy : y = q.1 ∧ m = q.2.1
          · rw [if_pos hy, if_pos hy, if_neg]
            rintro ⟨a, b⟩
            exact hq ⟨a ▸ hy.1, b ▸ hy.2⟩
          · rw [if_neg hy, if_neg hy]
        · refine .inr ⟨j + 1, v, by simp [Instr.findAsking, hk, hr, r1, Nat.add_assoc, Nat.add_comm 1 j], by rw [sget_cons, if_neg hq]; exact r2, by simpa using r3, fun v' y m => ?_⟩
          rw [List.set_cons_succ, sget_cons, sget_cons, r4]
          by_cases hy : y = q.1 ∧ m = q.2.1
          · rw [if_pos hy, if_pos hy, if_neg]
            rintro ⟨a, b⟩
            exact hq ⟨a ▸ hy.1, b ▸ hy.2⟩
          · rw [if_neg hy, if_neg hy]

/-- Block b is a map that holds just what f tells. -/
def SMap (w : World) (b : Nat) (f : Addr → Int → Option Value) : Prop :=
  ∃ (es : Array MapEntry) (clock : Nat) (l : List SEnt), w.heap[b]? = some (.map es clock) ∧ es.toList.map entV = l.map sntV ∧ (∀ q ∈ l, Plain w q.1) ∧ ∀ x n, sget l x n = f x n

theorem SMap.made (w : World) : SMap (w.alloc (.map #[] 0)) w.heap.size fun _ _ => none :=
  ⟨#[], 0, [], heap_alloc_new w _, rfl, (fun q (h : q ∈ []) => absurd h List.not_mem_nil), fun _ _ => rfl⟩

theorem SMap.lt {w : World} {b : Nat} {f : Addr → Int → Option Value} (h : SMap w b f) : b < w.heap.size := by
  obtain ⟨_, _, _, h, _⟩ := h
  exact Nat.lt_of_not_le fun h2 => by rw [Array.getElem?_eq_none h2] at h; cases h

/-- The map stays while its block and the blocks of its keys do. -/
theorem SMap.kept {w w' : World} {b : Nat} {f : Addr → Int → Option Value} (h : SMap w b f) (hb : w'.heap[b]? = w.heap[b]?) (hk : ∀ x n v, f x n = some v → Plain w x → Plain w' x) : SMap w' b f := by
  obtain ⟨es, cl, l, h1, h2, h3, h4⟩ := h
  refine ⟨es, cl, l, hb.trans h1, h2, fun q hq => ?_, h4⟩
  cases hg : sget l q.1 q.2.1 with
  | none =>
    exfalso
    unfold sget at hg
    have := List.find?_eq_none.1 (Option.map_eq_none_iff.1 hg) q hq
    simp at this
  | some v => exact hk q.1 q.2.1 v ((h4 _ _).symm.trans hg) (h3 q hq)

theorem SMap.look {P : Program} {t k e : TypeId} (S : SpotTy P k) (ht : P.underlying t = some (.map k e)) {w : World} {b : Nat} {f : Addr → Int → Option Value} (h : SMap w b f) {x : Addr} {n : Int} (hx : Plain w x) {z : Value} (hz : (zeroValue e).run P w = .ok z w) :
    (Instr.lookup t (.map (some b)) (skey x n) true).run P w = .ok (.tuple #[(f x n).getD z, .bool (f x n).isSome]) w := by
  obtain ⟨es, cl, l, h1, h2, h3, h4⟩ := h
  rcases run_find S w x n hx l es.toList 0 h2 h3 with ⟨r1, r2, r3⟩ | ⟨j, v, r1, r2, r3, r4⟩
  · rw [h4] at r2
    simp [Instr.lookup, run_underlying ht, MapKept.run_getObj_map h1, S.chk, run_findKey_eq w S.wide, r1, r2, hz, Result.andThen]
  · rw [h4] at r2
    simp [Instr.lookup, run_underlying ht, MapKept.run_getObj_map h1, S.chk, run_findKey_eq w S.wide, r1, r2, Result.andThen]

theorem sameBits_skey (x : Addr) (n : Int) : Instr.sameBits 10000 (skey x n) (skey x n) = true := by
  unfold skey
  simp [Instr.sameBits]

theorem map_set {l : List SEnt} {es : List MapEntry} (h : es.map entV = l.map sntV) (j : Nat) (g : MapEntry → MapEntry) (x : Addr) (n : Int) (v : Value) (hg : ∀ e, entV (g e) = (skey x n, v)) : (es.modify j g).map entV = (l.set j (x, n, v)).map sntV := by
  induction l generalizing es j with
  | nil =>
    have : es = [] := by simpa using h
    subst this
    cases j <;> simp
  | cons q l ih =>
    cases es with
    | nil => simp at h
    | cons e es =>
      simp only [List.map_cons, List.cons.injEq] at h
      cases j with
      | zero => simp [hg, h.2]; rfl
      | succ j => simp [h.1, ih h.2]

theorem SMap.store {P : Program} {t k e : TypeId} (S : SpotTy P k) (ht : P.underlying t = some (.map k e)) {w : World} {b : Nat} {f : Addr → Int → Option Value} (h : SMap w b f) {x : Addr} {n : Int} (hx : Plain w x) (v : Value) :
    ∃ w', (Instr.mapUpdate t (.map (some b)) (skey x n) v).run P w = .ok () w' ∧ SMap w' b (fun y m => if y = x ∧ m = n then some v else f y m) ∧ w.mapTurned w' b := by
  have hb := h.lt
  obtain ⟨es, cl, l, h1, h2, h3, h4⟩ := h
  have hpl : ∀ (o1 : Array MapEntry) (o2 : Nat) (y : Addr), Plain w y → Plain (setBlock w b (.map o1 o2)) y := fun o1 o2 y ⟨c, t, hc⟩ => by
    refine ⟨c, t, ?_⟩
    have hne : b ≠ y.block := fun h => by rw [← h, h1] at hc; cases hc
    simp [setBlock, hne, hc]
  have hat : ∀ (o1 : Array MapEntry) (o2 : Nat), (setBlock w b (.map o1 o2)).heap[b]? = some (.map o1 o2) := fun o1 o2 => by simp [setBlock, hb]
  rcases run_find S w x n hx l es.toList 0 h2 h3 with ⟨r1, r2, r3⟩ | ⟨j, v0, r1, r2, r3, r4⟩
  · refine ⟨setBlock w b (.map (es.push { key := skey x n, val := v, born := cl }) (cl + 1)), ?_, ⟨_, _, l ++ [(x, n, v)], hat _ _, ?_, ?_, ?_⟩, es, cl, _, _, h1, rfl⟩
    · simp [Instr.mapUpdate, run_underlying ht, MapKept.run_getObj_map h1, MapKept.run_setObj_map _ h1, S.chk, run_findKey_eq w S.wide, r1, Result.andThen, setBlock]
    · simp [h2, entV, sntV]
    · intro q hq
      rcases List.mem_append.1 hq with hq | hq
      · exact hpl _ _ _ (h3 q hq)
      · obtain rfl := List.mem_singleton.1 hq
        exact hpl _ _ _ hx
    · intro y m
      rw [r3 v y m, h4]
  · have hes : ∃ e0, es[j]? = some e0 ∧ e0.key = skey x n := by
      have hl : (es.toList.map entV)[j]? = some (sntV (x, n, v0)) := by rw [h2, List.getElem?_map, r3]; rfl
      rw [List.getElem?_map] at hl
      cases he : es.toList[j]? with
      | none => rw [he] at hl; cases hl
      | some e0 =>
        rw [he] at hl
        simp only [Option.map_some, Option.some.injEq] at hl
        exact ⟨e0, by rw [← Array.getElem?_toList]; exact he, congrArg Prod.fst hl⟩
    obtain ⟨e0, he0, hk0⟩ := hes
    refine ⟨setBlock w b (.map (es.modify j fun e => { e with key := skey x n, val := v }) cl), ?_, ⟨_, _, l.set j (x, n, v), hat _ _, ?_, ?_, ?_⟩, es, cl, _, _, h1, rfl⟩
    · simp [Instr.mapUpdate, run_underlying ht, MapKept.run_getObj_map h1, MapKept.run_setObj_map _ h1, S.chk, run_findKey_eq w S.wide, r1, Result.andThen, setBlock, he0, hk0, Instr.keyThatStays, sameBits_skey]
    · rw [Array.toList_modify]
      exact map_set h2 j _ x n v (fun e => rfl)
    · intro q hq
      rcases List.mem_or_eq_of_mem_set hq with hq | rfl
      · exact hpl _ _ _ (h3 q hq)
      · exact hpl _ _ _ hx
    · intro y m
      rw [r4 v y m, h4]

section
variable {P : Program} (w : World) {ops : Array Oper} {rest : List Oper} {o : Oper} {a : Act} {Q : Exit → Act → World → Prop}

theorem wpList_look_spot (hg : o.guard = none) (m x : Operand) (t : TypeId) (hop : o.op = Op.lookup t m x true) (k e : TypeId) (S : SpotTy P k) (ht : P.underlying t = some (.map k e)) {z : Value} (hz : (zeroValue e).run P w = .ok z w) (b : Nat) (f : Addr → Int → Option Value)
    (hm : a.eval m = .map (some b)) (hown : SMap w b f) (y : Addr) (n : Int) (hx : a.eval x = .agg #[.pointer (some y), .int .i64 n]) (hp : Plain w y)
    (hK : wpList P ops Q rest (a.put o.dst (.tuple #[(f y n).getD z, .bool (f y n).isSome])) w) : wpList P ops Q (o :: rest) a w := by
  refine wpList_plain hg fun K' hK' => ?_
  have hrun := hown.look S ht (n := n) hp hz
  have hx' : a.eval x = skey y n := hx
  unfold Oper.wp
  simp [execOp, hop, hm, hx', hrun, Result.andThen]
  exact hK' _ _ hK

theorem wpList_store_spot (hg : o.guard = none) (m x v : Operand) (t : TypeId) (hop : o.op = Op.mapUpdate t m x v) (k e : TypeId) (S : SpotTy P k) (ht : P.underlying t = some (.map k e)) (b : Nat) (f : Addr → Int → Option Value)
    (hm : a.eval m = .map (some b)) (hown : SMap w b f) (y : Addr) (n : Int) (val : Value) (hx : a.eval x = .agg #[.pointer (some y), .int .i64 n]) (hv : a.eval v = val) (hp : Plain w y)
    (hK : ∀ w', SMap w' b (fun y' m' => if y' = y ∧ m' = n then some val else f y' m') → w.mapTurned w' b → wpList P ops Q rest (a.put o.dst undef) w') : wpList P ops Q (o :: rest) a w := by
  refine wpList_plain hg fun K' hK' => ?_
  obtain ⟨w', hrun, r1, r2⟩ := hown.store S ht (n := n) hp val
  have hx' : a.eval x = skey y n := hx
  unfold Oper.wp
  simp [execOp, hop, hm, hx', hv, hrun, Result.andThen]
  exact hK' _ _ (hK w' r1 r2)
end

end Go.Proofs.Ytkfpfijblflcfaa
