/- Maps whose keys are a pointer and a number: what a look-up and a store come to. -/
import Derived.Maps.OwnSet
import Derived.LaidEqlPtr
import Derived.WideKeyRuns
import Derived.Test.YtkkdnkdkelligaaGreatDoorTmM
import Derived.Test.YtkkdnkdkelligaaGreatDoorIOkM
import Derived.Test.YtkkdnkdkelligaaGreatDoorGetTM
import Derived.Deep.RegionWith
namespace Go.Proofs.YtkkdnkdkelligaaGreatDoor
open Go.RowKit Go.ChangeMaps Go.MapKept Go.WideShapes
set_option linter.unusedVariables false

/-- A key: where a list begins, and how many it has. -/
def skey (x : Addr) (n : Int) : Value := .agg #[.pointer (some x), .int .i64 n]

/-- An address that may be held against another one. -/
def Plain (w : World) (x : Addr) : Prop := ∃ c t, w.heap[x.block]? = some (.cells c t (0, 0))

/-- What is asked of the type of the keys. -/
structure SpotTy (P : Program) (k : TypeId) : Prop where
  wide : (match P.underlying k with | some (.array _ _) | some (.struct _) => true | _ => false) = true
  eq : ∀ (w : World) (x y : Addr) (n m : Int), Plain w x → Plain w y → (Op.equal k (skey x n) (skey y m)).run P w = .ok (decide (x = y ∧ n = m)) w
  chk : ∀ (w : World) (em : Bool) (x : Addr) (n : Int), (Instr.checkKey em 10000 k (skey x n)).run P w = .ok () w

abbrev SEnt := Addr × Int × Value

def sget (l : List SEnt) (x : Addr) (n : Int) : Option Value := (l.find? fun q => decide (x = q.1 ∧ n = q.2.1)).map (·.2.2)

theorem sget_cons (q : SEnt) (l : List SEnt) (x : Addr) (n : Int) : sget (q :: l) x n = if x = q.1 ∧ n = q.2.1 then some q.2.2 else sget l x n := by
  unfold sget
  by_cases h : x = q.1 ∧ n = q.2.1
  · simp [h]
  · rw [List.find?_cons, if_neg h]
    have : decide (x = q.1 ∧ n = q.2.1) = false := decide_eq_false h
    simp only [this]

def entV (e : MapEntry) : Value × Value := (e.key, e.val)
def sntV (q : SEnt) : Value × Value := (skey q.1 q.2.1, q.2.2)

theorem run_find {P : Program} {k : TypeId} (S : SpotTy P k) (w : World) (x : Addr) (n : Int) (hx : Plain w x) : ∀ (l : List SEnt) (es : List MapEntry) (i : Nat), es.map entV = l.map sntV → (∀ q ∈ l, Plain w q.1) →
    ((Instr.findAsking k (skey x n) es i).run P w = .ok none w ∧ sget l x n = none ∧ ∀ v' y m, sget (l ++ [(x, n, v')]) y m = if y = x ∧ m = n then some v' else sget l y m) ∨
    ∃ j v, (Instr.findAsking k (skey x n) es i).run P w = .ok (some (i + j, v)) w ∧ sget l x n = some v ∧ l[j]? = some (x, n, v) ∧ ∀ v' y m, sget (l.set j (x, n, v')) y m = if y = x ∧ m = n then some v' else sget l y m
  | [], es, i, he, _ => by
    have : es = [] := by simpa using he
    subst this
    refine .inl ⟨by simp [Instr.findAsking], rfl, fun v' y m => ?_⟩
    rw [List.nil_append, sget_cons]
  | q :: l, es, i, he, hall => by
    cases es with
    | nil => simp at he
    | cons e es =>
      simp only [List.map_cons, List.cons.injEq] at he
      obtain ⟨h1, h2⟩ := he
      have hk : e.key = skey q.1 q.2.1 := congrArg Prod.fst h1
      have hv : e.val = q.2.2 := congrArg Prod.snd h1
      have hr := S.eq w x q.1 n q.2.1 hx (hall q (by simp))
      by_cases hq : x = q.1 ∧ n = q.2.1
      · right
        refine ⟨0, q.2.2, ?_, ?_, ?_, fun v' y m => ?_⟩
        · rw [decide_eq_true hq] at hr
          simp [Instr.findAsking, hk, hr, hv]
        · rw [sget_cons, if_pos hq]
        · obtain ⟨rfl, rfl⟩ := hq; rfl
        · rw [List.set_cons_zero, sget_cons, sget_cons]
          by_cases hy : y = x ∧ m = n
          · rw [if_pos hy, if_pos hy]
          · rw [if_neg hy, if_neg hy, if_neg (by rw [← hq.1, ← hq.2]; exact hy)]
      · rw [decide_eq_false hq] at hr
        rcases run_find S w x n hx l es (i + 1) h2 (fun y hy => hall y (by simp [hy])) with ⟨r1, r2, r3⟩ | ⟨j, v, r1, r2, r3, r4⟩
        · refine .inl ⟨by simp [Instr.findAsking, hk, hr, r1], by rw [sget_cons, if_neg hq]; exact r2, fun v' y m => ?_⟩
          rw [List.cons_append, sget_cons, sget_cons, r3]
          by_cases hy : y = q.1 ∧ m = q.2.1
          · rw [if_pos hy, if_pos hy, if_neg]
            rintro ⟨a, b⟩
            exact hq ⟨a ▸ hy.1, b ▸ hy.2⟩
          · rw [if_neg hy, if_neg hy]
        · refine .inr ⟨j + 1, v, by simp [Instr.findAsking, hk, hr, r1, Nat.add_assoc, Nat.add_comm 1 j], by rw [sget_cons, if_neg hq]; exact r2, by simpa using r3, fun v' y m => ?_⟩
          rw [List.set_cons_succ, sget_cons, sget_cons, r4]
          by_cases hy : y = q.1 ∧ m = q.2.1
          · rw [if_pos hy, if_pos hy, if_neg]
            rintro ⟨a, b⟩
            exact hq ⟨a ▸ hy.1, b ▸ hy.2⟩
          · rw [if_neg hy, if_neg hy]

/-- Block b is a map that holds just what f tells. -/
def SMap (w : World) (b : Nat) (f : Addr → Int → Option Value) : Prop :=
  ∃ (es : Array MapEntry) (clock : Nat) (l : List SEnt), w.heap[b]? = some (.map es clock) ∧ es.toList.map entV = l.map sntV ∧ (∀ q ∈ l, Plain w q.1) ∧ ∀ x n, sget l x n = f x n

theorem SMap.made (w : World) : SMap (w.alloc (.map #[] 0)) w.heap.size fun _ _ => none :=
  ⟨#[], 0, [], heap_alloc_new w _, rfl, (fun q (h : q ∈ []) => absurd h List.not_mem_nil), fun _ _ => rfl⟩

theorem SMap.lt {w : World} {b : Nat} {f : Addr → Int → Option Value} (h : SMap w b f) : b < w.heap.size := by
  obtain ⟨_, _, _, h, _⟩ := h
  exact Nat.lt_of_not_le fun h2 => by rw [Array.getElem?_eq_none h2] at h; cases h

/-- The map stays while its block and the blocks of its keys do. -/
theorem SMap.kept {w w' : World} {b : Nat} {f : Addr → Int → Option Value} (h : SMap w b f) (hb : w'.heap[b]? = w.heap[b]?) (hk : ∀ x n v, f x n = some v → Plain w x → Plain w' x) : SMap w' b f := by
  obtain ⟨es, cl, l, h1, h2, h3, h4⟩ := h
  refine ⟨es, cl, l, hb.trans h1, h2, fun q hq => ?_, h4⟩
  cases hg : sget l q.1 q.2.1 with
  | none =>
    exfalso
    unfold sget at hg
    have := List.find?_eq_none.1 (Option.map_eq_none_iff.1 hg) q hq
    simp at this
  | some v => exact hk q.1 q.2.1 v ((h4 _ _).symm.trans hg) (h3 q hq)

theorem SMap.look {P : Program} {t k e : TypeId} (S : SpotTy P k) (ht : P.underlying t = some (.map k e)) {w : World} {b : Nat} {f : Addr → Int → Option Value} (h : SMap w b f) {x : Addr} {n : Int} (hx : Plain w x) {z : Value} (hz : (zeroValue e).run P w = .ok z w) :
    (Instr.lookup t (.map (some b)) (skey x n) true).run P w = .ok (.tuple #[(f x n).getD z, .bool (f x n).isSome]) w := by
  obtain ⟨es, cl, l, h1, h2, h3, h4⟩ := h
  rcases run_find S w x n hx l es.toList 0 h2 h3 with ⟨r1, r2, r3⟩ | ⟨j, v, r1, r2, r3, r4⟩
  · rw [h4] at r2
    simp [Instr.lookup, run_underlying ht, MapKept.run_getObj_map h1, S.chk, run_findKey_eq w S.wide, r1, r2, hz, Result.andThen]
  · rw [h4] at r2
    simp [Instr.lookup, run_underlying ht, MapKept.run_getObj_map h1, S.chk, run_findKey_eq w S.wide, r1, r2, Result.andThen]

theorem sameBits_skey (x : Addr) (n : Int) : Instr.sameBits 10000 (skey x n) (skey x n) = true := by
  unfold skey
  simp [Instr.sameBits]

theorem map_set {l : List SEnt} {es : List MapEntry} (h : es.map entV = l.map sntV) (j : Nat) (g : MapEntry → MapEntry) (x : Addr) (n : Int) (v : Value) (hg : ∀ e, entV (g e) = (skey x n, v)) : (es.modify j g).map entV = (l.set j (x, n, v)).map sntV := by
  induction l generalizing es j with
  | nil =>
    have : es = [] := by simpa using h
    subst this
    cases j <;> simp
  | cons q l ih =>
    cases es with
    | nil => simp at h
    | cons e es =>
      simp only [List.map_cons, List.cons.injEq] at h
      cases j with
      | zero => simp [hg, h.2]; rfl
      | succ j => simp [h.1, ih h.2]

theorem SMap.store {P : Program} {t k e : TypeId} (S : SpotTy P k) (ht : P.underlying t = some (.map k e)) {w : World} {b : Nat} {f : Addr → Int → Option Value} (h : SMap w b f) {x : Addr} {n : Int} (hx : Plain w x) (v : Value) :
    ∃ w', (Instr.mapUpdate t (.map (some b)) (skey x n) v).run P w = .ok () w' ∧ SMap w' b (fun y m => if y = x ∧ m = n then some v else f y m) ∧ w.mapTurned w' b := by
  have hb := h.lt
  obtain ⟨es, cl, l, h1, h2, h3, h4⟩ := h
  have hpl : ∀ (o1 : Array MapEntry) (o2 : Nat) (y : Addr), Plain w y → Plain (setBlock w b (.map o1 o2)) y := fun o1 o2 y ⟨c, t, hc⟩ => by
    refine ⟨c, t, ?_⟩
    have hne : b ≠ y.block := fun h => by rw [← h, h1] at hc; cases hc
    simp [setBlock, hne, hc]
  have hat : ∀ (o1 : Array MapEntry) (o2 : Nat), (setBlock w b (.map o1 o2)).heap[b]? = some (.map o1 o2) := fun o1 o2 => by simp [setBlock, hb]
  rcases run_find S w x n hx l es.toList 0 h2 h3 with ⟨r1, r2, r3⟩ | ⟨j, v0, r1, r2, r3, r4⟩
  · refine ⟨setBlock w b (.map (es.push { key := skey x n, val := v, born := cl }) (cl + 1)), ?_, ⟨_, _, l ++ [(x, n, v)], hat _ _, ?_, ?_, ?_⟩, es, cl, _, _, h1, rfl⟩
    · simp [Instr.mapUpdate, run_underlying ht, MapKept.run_getObj_map h1, MapKept.run_setObj_map _ h1, S.chk, run_findKey_eq w S.wide, r1, Result.andThen, setBlock]
    · simp [h2, entV, sntV]
    · intro q hq
      rcases List.mem_append.1 hq with hq | hq
      · exact hpl _ _ _ (h3 q hq)
      · obtain rfl := List.mem_singleton.1 hq
        exact hpl _ _ _ hx
    · intro y m
      rw [r3 v y m, h4]
  · have hes : ∃ e0, es[j]? = some e0 ∧ e0.key = skey x n := by
      have hl : (es.toList.map entV)[j]? = some (sntV (x, n, v0)) := by rw [h2, List.getElem?_map, r3]; rfl
      rw [List.getElem?_map] at hl
      cases he : es.toList[j]? with
      | none => rw [he] at hl; cases hl
      | some e0 =>
        rw [he] at hl
        simp only [Option.map_some, Option.some.injEq] at hl
        exact ⟨e0, by rw [← Array.getElem?_toList]; exact he, congrArg Prod.fst hl⟩
    obtain ⟨e0, he0, hk0⟩ := hes
    refine ⟨setBlock w b (.map (es.modify j fun e => { e with key := skey x n, val := v }) cl), ?_, ⟨_, _, l.set j (x, n, v), hat _ _, ?_, ?_, ?_⟩, es, cl, _, _, h1, rfl⟩
    · simp [Instr.mapUpdate, run_underlying ht, MapKept.run_getObj_map h1, MapKept.run_setObj_map _ h1, S.chk, run_findKey_eq w S.wide, r1, Result.andThen, setBlock, he0, hk0, Instr.keyThatStays, sameBits_skey]
    · rw [Array.toList_modify]
      exact map_set h2 j _ x n v (fun e => rfl)
    · intro q hq
      rcases List.mem_or_eq_of_mem_set hq with hq | rfl
      · exact hpl _ _ _ (h3 q hq)
      · exact hpl _ _ _ hx
    · intro y m
      rw [r4 v y m, h4]

section
variable {P : Program} (w : World) {ops : Array Oper} {rest : List Oper} {o : Oper} {a : Act} {Q : Exit → Act → World → Prop}

theorem wpList_look_spot (hg : o.guard = none) (m x : Operand) (t : TypeId) (hop : o.op = Op.lookup t m x true) (k e : TypeId) (S : SpotTy P k) (ht : P.underlying t = some (.map k e)) {z : Value} (hz : (zeroValue e).run P w = .ok z w) (b : Nat) (f : Addr → Int → Option Value)
    (hm : a.eval m = .map (some b)) (hown : SMap w b f) (y : Addr) (n : Int) (hx : a.eval x = .agg #[.pointer (some y), .int .i64 n]) (hp : Plain w y)
    (hK : wpList P ops Q rest (a.put o.dst (.tuple #[(f y n).getD z, .bool (f y n).isSome])) w) : wpList P ops Q (o :: rest) a w := by
  refine wpList_plain hg fun K' hK' => ?_
  have hrun := hown.look S ht (n := n) hp hz
  have hx' : a.eval x = skey y n := hx
  unfold Oper.wp
  simp [execOp, hop, hm, hx', hrun, Result.andThen]
  exact hK' _ _ hK

theorem wpList_store_spot (hg : o.guard = none) (m x v : Operand) (t : TypeId) (hop : o.op = Op.mapUpdate t m x v) (k e : TypeId) (S : SpotTy P k) (ht : P.underlying t = some (.map k e)) (b : Nat) (f : Addr → Int → Option Value)
    (hm : a.eval m = .map (some b)) (hown : SMap w b f) (y : Addr) (n : Int) (val : Value) (hx : a.eval x = .agg #[.pointer (some y), .int .i64 n]) (hv : a.eval v = val) (hp : Plain w y)
    (hK : ∀ w', SMap w' b (fun y' m' => if y' = y ∧ m' = n then some val else f y' m') → w.mapTurned w' b → wpList P ops Q rest (a.put o.dst undef) w') : wpList P ops Q (o :: rest) a w := by
  refine wpList_plain hg fun K' hK' => ?_
  obtain ⟨w', hrun, r1, r2⟩ := hown.store S ht (n := n) hp val
  have hx' : a.eval x = skey y n := hx
  unfold Oper.wp
  simp [execOp, hop, hm, hx', hv, hrun, Result.andThen]
  exact hK' _ _ (hK w' r1 r2)
end

end Go.Proofs.YtkkdnkdkelligaaGreatDoor

/- A walk through a term by a list of what is under way: what it comes to. -/
namespace Go.Proofs.YtkkdnkdkelligaaGreatDoor
open Go.RowKit
set_option linter.unusedVariables false

/-- A value that is a slice of the terms ts, in memory whose places may be held against each other. -/
def RdQ : (d : Nat) → World → Value → List (Tm d) → Prop
  | 0, _, v, _ => ∃ a c, v = .slice a 0 c
  | d + 1, w, v, ts => ∃ a c, v = .slice a ts.length c ∧ ∀ (i : Nat) (t : Tm (d + 1)), ts[i]? = some t → ∃ b o lv, a = some ⟨b, o, none⟩ ∧ Plain w ⟨b, o, none⟩ ∧ Four w b (o + i * 4) t.K t.N t.S lv ∧ RdQ d w lv t.L

theorem Plain.later {w w' : World} {x : Addr} (h : Plain w x) (hb : Below w.heap.size w w') : Plain w' x := by
  obtain ⟨c, t, h⟩ := h
  exact ⟨c, t, (hb.block _ (Nat.lt_of_not_le fun hn => by rw [Array.getElem?_eq_none hn] at h; cases h)).trans h⟩

theorem Plain.lt {w : World} {x : Addr} (h : Plain w x) : x.block < w.heap.size := by
  obtain ⟨c, t, h⟩ := h
  exact Nat.lt_of_not_le fun hn => by rw [Array.getElem?_eq_none hn] at h; cases h

theorem RdQ.later : ∀ {d : Nat} {w w' : World} {v : Value} {ts : List (Tm d)}, RdQ d w v ts → Below w.heap.size w w' → RdQ d w' v ts := by
  intro d
  induction d with
  | zero => intro w w' v ts h _; exact h
  | succ d ih =>
    intro w w' v ts h hb
    obtain ⟨a, c, rfl, h1⟩ := h
    refine ⟨a, c, rfl, fun i t ht => ?_⟩
    obtain ⟨b, o, lv, h2, h3, h4, h5⟩ := h1 i t ht
    exact ⟨b, o, lv, h2, h3.later hb, h4.later hb, ih h5 hb⟩

theorem RdQ.len {d : Nat} {w : World} {v : Value} {ts : List (Tm d)} (h : RdQ d w v ts) : ∃ a c, v = .slice a ts.length c := by
  cases d with
  | zero =>
    cases ts with
    | nil => exact h
    | cons t _ => exact Empty.elim t
  | succ d =>
    obtain ⟨a, c, e, _⟩ := h
    exact ⟨a, c, e⟩

theorem OwnL.rdq : ∀ {d : Nat} {w : World} {v : Value} {ts : List (Tm d)} {fp : List Nat}, OwnL d w v ts fp → RdQ d w v ts := by
  intro d
  induction d with
  | zero => intro w v ts fp h; exact h.1
  | succ d ih =>
    intro w v ts fp h
    rcases h with ⟨rfl, _, a, c, rfl⟩ | ⟨g, c, cur, fps, h1, h2, h3, rfl, h4⟩
    · exact ⟨a, c, rfl, fun i t ht => by simp at ht⟩
    · refine ⟨_, c, h1, fun i t ht => ?_⟩
      obtain ⟨lv, f, e1, e2, e3, e4, e5, e6⟩ := h4 i t ht
      refine ⟨g, 0, lv, rfl, ⟨_, _, h2⟩, ?_, ih e6⟩
      have hc := fun j => cell_of_row w g j cur 66 (0, 0) h2
      exact ⟨by rw [hc, ← e2, Nat.zero_add], by rw [hc, ← e3, Nat.zero_add], by rw [hc, ← e4, Nat.zero_add], by rw [hc, ← e5, Nat.zero_add]⟩

theorem cntL_nil (d : Nat) : cntL d [] = 0 := by cases d <;> rfl
theorem depL_nil (d : Nat) : depL d [] = 0 := by cases d <;> rfl
theorem cntL_cons (d : Nat) (t : Tm (d + 1)) (ts : List (Tm (d + 1))) : cntL (d + 1) (t :: ts) = 1 + cntL d t.L + cntL (d + 1) ts := rfl
theorem foldl_max_of (l : List Nat) : ∀ a, l.foldl max a = max a (l.foldl max 0) := by
  induction l with
  | nil => intro a; show a = max a 0; omega
  | cons b r ih =>
    intro a
    simp only [List.foldl_cons]
    rw [ih (max a b), ih (max 0 b)]
    omega
theorem depL_cons (d : Nat) (t : Tm (d + 1)) (ts : List (Tm (d + 1))) : depL (d + 1) (t :: ts) = max (1 + depL d t.L) (depL (d + 1) ts) := by
  show ((1 + depL d t.L) :: List.map (fun t : Tm (d + 1) => 1 + depL d t.L) ts).foldl max 0 = max _ ((List.map (fun t : Tm (d + 1) => 1 + depL d t.L) ts).foldl max 0)
  rw [List.foldl_cons, foldl_max_of]
  omega

theorem tm0 (ts : List (Tm 0)) : ts = [] := by
  cases ts with
  | nil => rfl
  | cons t _ => exact Empty.elim t

/-- What lies at one place, of one length, is of one measure. -/
theorem RdQ.same : ∀ {d d' : Nat} {w : World} {a : Option Addr} {n c c' : Nat} {ts : List (Tm d)} {ts' : List (Tm d')}, RdQ d w (.slice a n c) ts → RdQ d' w (.slice a n c') ts' → cntL d ts = cntL d' ts' ∧ depL d ts = depL d' ts' := by
  intro d
  induction d with
  | zero =>
    intro d' w a n c c' ts ts' h h'
    obtain ⟨a1, c1, e⟩ := h
    simp only [Value.slice.injEq] at e
    obtain ⟨a2, c2, e2⟩ := h'.len
    simp only [Value.slice.injEq] at e2
    have : ts' = [] := List.length_eq_zero_iff.1 (e2.2.1.symm.trans e.2.1)
    subst this
    rw [tm0 ts]
    exact ⟨(cntL_nil _).trans (cntL_nil _).symm, (depL_nil _).trans (depL_nil _).symm⟩
  | succ d ih =>
    intro d' w a n c c' ts ts' h h'
    cases d' with
    | zero =>
      obtain ⟨a1, c1, e⟩ := h'
      simp only [Value.slice.injEq] at e
      obtain ⟨a2, c2, e2⟩ := h.len
      simp only [Value.slice.injEq] at e2
      have : ts = [] := List.length_eq_zero_iff.1 (e2.2.1.symm.trans e.2.1)
      subst this
      rw [tm0 ts']
      exact ⟨(cntL_nil _).trans (cntL_nil _).symm, (depL_nil _).trans (depL_nil _).symm⟩
    | succ d' =>
      obtain ⟨a1, c1, e1, h1⟩ := h
      obtain ⟨a2, c2, e2, h2⟩ := h'
      simp only [Value.slice.injEq] at e1 e2
      obtain ⟨rfl, e1, _⟩ := e1
      obtain ⟨rfl, e2, _⟩ := e2
      have hl : ts.length = ts'.length := e1.symm.trans e2
      have hall : ∀ (i : Nat) (t : Tm (d + 1)) (t' : Tm (d' + 1)), ts[i]? = some t → ts'[i]? = some t' → cntL d t.L = cntL d' t'.L ∧ depL d t.L = depL d' t'.L := by
        intro i t t' ht ht'
        obtain ⟨b, o, lv, g1, _, g2, g3⟩ := h1 i t ht
        obtain ⟨b', o', lv', g1', _, g2', g3'⟩ := h2 i t' ht'
        have e3 := g1.symm.trans g1'
        simp only [Option.some.injEq, Addr.mk.injEq, and_true] at e3
        obtain ⟨rfl, rfl⟩ := e3
        have e4 := g2.2.2.2.symm.trans g2'.2.2.2
        simp only [Option.some.injEq] at e4
        subst e4
        obtain ⟨a3, c3, e5⟩ := g3.len
        subst e5
        exact ih g3 g3'
      clear h1 h2 e1 e2
      induction ts generalizing ts' with
      | nil =>
        have : ts' = [] := List.length_eq_zero_iff.1 hl.symm
        subst this
        exact ⟨rfl, rfl⟩
      | cons t r ih2 =>
        cases ts' with
        | nil => simp at hl
        | cons t' r' =>
          have h0 := hall 0 t t' rfl rfl
          have hr := ih2 (ts' := r') (by simpa using hl) (fun i u u' hu hu' => hall (i + 1) u u' (by simpa using hu) (by simpa using hu'))
          rw [cntL_cons, cntL_cons, depL_cons, depL_cons, h0.1, h0.2, hr.1, hr.2]
          exact ⟨rfl, rfl⟩

/-- A list that is under way: how many it has in all and how deep it is, what is left of it. -/
def FrOk (w : World) (T D : Nat) (v : Value) (nx rc rp : Nat) : Prop := ∃ (d : Nat) (ts : List (Tm d)), RdQ d w v ts ∧ nx ≤ ts.length ∧ cntL d ts = T ∧ depL d ts = D ∧ cntL d (ts.drop nx) = rc ∧ depL d (ts.drop nx) = rp

abbrev Frm := Value × Nat × Nat × Nat

/-- The lists under way, the innermost first: what they come to, and how much work that is. -/
def Stk (w : World) (C P : Nat) : List Frm → Nat → Nat → Nat → Nat → Prop
  | [], _, ac, ap, W => ac = C + 1 ∧ ap = P + 1 ∧ W = 0
  | (v, nx, c, p) :: rest, lo, ac, ap, W => ∃ T D rc rp W', FrOk w T D v nx rc rp ∧ lo ≤ T ∧ c + ac + rc = T ∧ max p (max ap rp) = D ∧ Stk w C P rest (T + 1) (T + 1) (D + 1) W' ∧ W = 2 * rc + 1 + W'

theorem Stk.bd {w : World} {C P : Nat} : ∀ {fs : List Frm} {lo ac ap W : Nat}, Stk w C P fs lo ac ap W → ac + fs.length ≤ C + 1 ∧ ap ≤ P + 1
  | [], _, _, _, _, h => ⟨by rw [h.1]; simp, by rw [h.2.1]; omega⟩
  | (v, nx, c, p) :: rest, lo, ac, ap, W, ⟨T, D, rc, rp, W', h1, h2, h3, h4, h5, h6⟩ => by
    have := h5.bd
    simp only [List.length_cons]
    omega

theorem Stk.above {w : World} {C P : Nat} : ∀ {fs : List Frm} {lo ac ap W : Nat}, Stk w C P fs lo ac ap W → ∀ fr ∈ fs, ∃ T D nx rc rp, FrOk w T D fr.1 nx rc rp ∧ lo ≤ T
  | [], _, _, _, _, _, fr, hfr => by cases hfr
  | (v, nx, c, p) :: rest, lo, ac, ap, W, ⟨T, D, rc, rp, W', h1, h2, h3, h4, h5, h6⟩, fr, hfr => by
    rcases List.mem_cons.1 hfr with rfl | hfr
    · exact ⟨T, D, nx, rc, rp, h1, h2⟩
    · obtain ⟨T', D', nx', rc', rp', g1, g2⟩ := h5.above fr hfr
      exact ⟨T', D', nx', rc', rp', g1, by omega⟩

/-- What stands next in a list that is under way. -/
theorem FrOk.next {w : World} {T D nx rc rp len cp : Nat} {a : Option Addr} (h : FrOk w T D (.slice a len cp) nx rc rp) (hlt : nx < len) : ∃ b o k n s lv T' rc' rp', a = some ⟨b, o, none⟩ ∧ Four w b (o + nx * 4) k n s lv ∧
    (∃ (d : Nat) (ts : List (Tm d)), RdQ d w lv ts ∧ cntL d ts = T' ∧ depL d ts = rp') ∧ T' + 1 ≤ T ∧ rc = 1 + T' + rc' ∧ ∃ rq, FrOk w T D (.slice a len cp) (nx + 1) rc' rq ∧ rp = max (1 + rp') rq := by
  obtain ⟨d, ts, h1, h2, h3, h7, h4, h5⟩ := h
  cases d with
  | zero =>
    obtain ⟨a1, c1, e⟩ := h1
    simp only [Value.slice.injEq] at e
    omega
  | succ d =>
    obtain ⟨a1, c1, e1, h6⟩ := h1
    simp only [Value.slice.injEq] at e1
    obtain ⟨rfl, rfl, rfl⟩ := e1
    have hd : ts.drop nx = ts[nx] :: ts.drop (nx + 1) := List.drop_eq_getElem_cons hlt
    obtain ⟨b, o, lv, g1, g2, g3, g4⟩ := h6 nx ts[nx] (List.getElem?_eq_getElem hlt)
    have hle : cntL (d + 1) (ts.drop nx) ≤ cntL (d + 1) ts := by
      show (List.map _ _).sum ≤ (List.map _ _).sum
      conv => rhs; rw [← List.take_append_drop nx ts]
      rw [List.map_append, List.sum_append]
      omega
    rw [hd, cntL_cons] at h4 hle
    rw [hd, depL_cons] at h5
    exact ⟨b, o, _, _, _, lv, _, cntL (d + 1) (ts.drop (nx + 1)), _, g1, g3, ⟨d, _, g4, rfl, rfl⟩, by omega, by omega, depL (d + 1) (ts.drop (nx + 1)), ⟨d + 1, ts, ⟨a, cp, rfl, h6⟩, hlt, h3, h7, rfl, rfl⟩, h5.symm⟩

theorem FrOk.done {w : World} {T D nx rc rp len cp : Nat} {a : Option Addr} (h : FrOk w T D (.slice a len cp) nx rc rp) (hlt : ¬ nx < len) : rc = 0 ∧ rp = 0 ∧ nx = len := by
  obtain ⟨d, ts, h1, h2, h3, h7, h4, h5⟩ := h
  obtain ⟨a1, c1, e⟩ := h1.len
  simp only [Value.slice.injEq] at e
  have : ts.drop nx = [] := List.drop_eq_nil_of_le (by omega)
  rw [this] at h4 h5
  exact ⟨h4.symm.trans (cntL_nil _), h5.symm.trans (depL_nil _), by omega⟩

theorem FrOk.slice {w : World} {T D nx rc rp : Nat} {v : Value} (h : FrOk w T D v nx rc rp) : ∃ a len cp, v = .slice a len cp ∧ nx ≤ len := by
  obtain ⟨d, ts, h1, h2, _⟩ := h
  obtain ⟨a1, c1, e⟩ := h1.len
  exact ⟨a1, _, c1, e, h2⟩

/-- What the walk has kept: of each list that it holds the measure, or the list is under way. -/
def KInv (w : World) (fs : List Frm) (f : Addr → Int → Option Value) : Prop :=
  ∀ x n v, f x n = some v → Plain w x ∧ ((∃ (d : Nat) (ts : List (Tm d)) (nn cp : Nat), n = (nn : Int) ∧ RdQ d w (.slice (some x) nn cp) ts ∧ v = .agg #[.int .i64 (cntL d ts : Nat), .int .i64 (depL d ts : Nat)]) ∨
    ∃ fr ∈ fs, ∃ (nn cp : Nat), n = (nn : Int) ∧ fr.1 = .slice (some x) nn cp)

/-- What is found of a list that is not under way is its measure. -/
theorem KInv.hit {w : World} {fs : List Frm} {f : Addr → Int → Option Value} {C P lo ac ap W : Nat} (h : KInv w fs f) (hs : Stk w C P fs lo ac ap W) {d : Nat} {ts : List (Tm d)} {x : Addr} {nn cp : Nat} (hr : RdQ d w (.slice (some x) nn cp) ts) (hlo : cntL d ts < lo) {v : Value} (hv : f x nn = some v) :
    v = .agg #[.int .i64 (cntL d ts : Nat), .int .i64 (depL d ts : Nat)] := by
  rcases (h x nn v hv).2 with ⟨d', ts', n', cp', e, hr', rfl⟩ | ⟨fr, hfr, n', cp', e, hfv⟩
  · obtain rfl : nn = n' := by omega
    obtain ⟨e1, e2⟩ := hr.same hr'
    rw [e1, e2]
  · obtain rfl : nn = n' := by omega
    obtain ⟨T, D, nx, rc, rp, ⟨d', ts', g1, g2, g3, _⟩, g4⟩ := hs.above fr hfr
    rw [hfv] at g1
    obtain ⟨e1, _⟩ := hr.same g1
    omega

/-- What is kept when a list comes on top. -/
theorem KInv.push {w : World} {fs : List Frm} {f : Addr → Int → Option Value} (h : KInv w fs f) (fr : Frm) : KInv w (fr :: fs) f := fun x n v hv => by
  obtain ⟨h1, h2⟩ := h x n v hv
  refine ⟨h1, ?_⟩
  rcases h2 with h2 | ⟨fr', h3, h4⟩
  · exact .inl h2
  · exact .inr ⟨fr', List.mem_cons_of_mem _ h3, h4⟩

/-- What is kept when the top's numbers turn. -/
theorem KInv.turn {w : World} {fs : List Frm} {f : Addr → Int → Option Value} {v : Value} {nx c p nx' c' p' : Nat} (h : KInv w ((v, nx, c, p) :: fs) f) : KInv w ((v, nx', c', p') :: fs) f := fun x n u hv => by
  obtain ⟨h1, h2⟩ := h x n u hv
  refine ⟨h1, ?_⟩
  rcases h2 with h2 | ⟨fr', h3, h4⟩
  · exact .inl h2
  · rcases List.mem_cons.1 h3 with rfl | h3
    · exact .inr ⟨_, List.mem_cons_self .., h4⟩
    · exact .inr ⟨fr', List.mem_cons_of_mem _ h3, h4⟩

/-- A mark is laid for a list that comes on top. -/
theorem KInv.mark {w : World} {fs : List Frm} {f : Addr → Int → Option Value} {x : Addr} {nn cp : Nat} {v : Value} (h : KInv w fs f) (hx : Plain w x) : KInv w ((.slice (some x) nn cp, 0, 0, 0) :: fs) fun y m => if y = x ∧ m = (nn : Int) then some v else f y m := fun y m u hu => by
  by_cases e : y = x ∧ m = (nn : Int)
  · exact ⟨by rw [e.1]; exact hx, .inr ⟨_, List.mem_cons_self .., nn, cp, e.2, by rw [e.1]⟩⟩
  · simp only [if_neg e] at hu
    exact h.push _ y m u hu

/-- The top goes, and what it came to is kept. -/
theorem KInv.pop {w : World} {fs : List Frm} {f : Addr → Int → Option Value} {x : Addr} {nn cp nx c p : Nat} (h : KInv w ((.slice (some x) nn cp, nx, c, p) :: fs) f) (hx : Plain w x) {d : Nat} {ts : List (Tm d)} (hr : RdQ d w (.slice (some x) nn cp) ts) :
    KInv w fs fun y m => if y = x ∧ m = (nn : Int) then some (.agg #[.int .i64 (cntL d ts : Nat), .int .i64 (depL d ts : Nat)]) else f y m := fun y m u hu => by
  by_cases e : y = x ∧ m = (nn : Int)
  · simp only [if_pos e, Option.some.injEq] at hu
    exact ⟨by rw [e.1]; exact hx, .inl ⟨d, ts, nn, cp, e.2, by rw [e.1]; exact hr, hu.symm⟩⟩
  · simp only [if_neg e] at hu
    obtain ⟨h1, h2⟩ := h y m u hu
    refine ⟨h1, ?_⟩
    rcases h2 with h2 | ⟨fr', h3, n', cp', h4, h5⟩
    · exact .inl h2
    · rcases List.mem_cons.1 h3 with rfl | h3
      · simp only [Value.slice.injEq, Option.some.injEq] at h5
        exact absurd ⟨h5.1.symm, by rw [h4, h5.2.1]⟩ e
      · exact .inr ⟨fr', h3, n', cp', h4, h5⟩

/-- The top goes, and nothing was kept yet. -/
theorem KInv.none {w : World} {fs : List Frm} {f : Addr → Int → Option Value} (h : ∀ x n, f x n = none) : KInv w fs f := fun x n v hv => by rw [h] at hv; cases hv

/-- The top of what is under way: what is next in it, and how it stands behind that. -/
theorem Stk.step {w : World} {C P W nx c p len cp : Nat} {a : Option Addr} {rest : List Frm} (h : Stk w C P ((.slice a len cp, nx, c, p) :: rest) 0 0 0 W) (hlt : nx < len) :
    ∃ b o k n s lv T' rp', a = some ⟨b, o, none⟩ ∧ Four w b (o + nx * 4) k n s lv ∧ (∃ (d : Nat) (ts : List (Tm d)), RdQ d w lv ts ∧ cntL d ts = T' ∧ depL d ts = rp') ∧ rp' ≤ P ∧ p ≤ P ∧ c + T' + 1 ≤ C ∧
      Stk w C P ((.slice a len cp, nx + 1, c, p) :: rest) (T' + 1) (T' + 1) (rp' + 1) (W - 2 * (T' + 1)) ∧ 2 * (T' + 1) < W := by
  obtain ⟨T, D, rc, rp, W', h1, h2, h3, h4, h5, h6⟩ := h
  obtain ⟨b, o, k, n, s, lv, T', rc', rp', g1, g2, g3, g4, g5, rq, g6, g7⟩ := h1.next hlt
  have hb := h5.bd
  exact ⟨b, o, k, n, s, lv, T', rp', g1, g2, g3, by omega, by omega, by omega, ⟨T, D, rc', rq, W', g6, g4, by omega, by omega, h5, by omega⟩, by omega⟩

/-- What comes of a list is put to the one around it. -/
theorem Stk.take {w : World} {C P W nx c p lo ac ap : Nat} {v : Value} {rest : List Frm} (h : Stk w C P ((v, nx, c, p) :: rest) lo ac ap W) : Stk w C P ((v, nx, c + ac, max p ap) :: rest) 0 0 0 W := by
  obtain ⟨T, D, rc, rp, W', h1, h2, h3, h4, h5, h6⟩ := h
  exact ⟨T, D, rc, rp, W', h1, Nat.zero_le _, by omega, by omega, h5, h6⟩

/-- A list is put on top of what is under way. -/
theorem Stk.push {w : World} {C P W T' rp' : Nat} {lv : Value} {fs : List Frm} {d : Nat} {ts : List (Tm d)} (hr : RdQ d w lv ts) (hT : cntL d ts = T') (hp : depL d ts = rp') (h : Stk w C P fs (T' + 1) (T' + 1) (rp' + 1) W) :
    Stk w C P ((lv, 0, 0, 0) :: fs) 0 0 0 (W + 2 * T' + 1) :=
  ⟨T', rp', T', rp', W, ⟨d, ts, hr, Nat.zero_le _, hT, hp, by rw [List.drop_zero]; exact hT, by rw [List.drop_zero]; exact hp⟩, Nat.zero_le _, by omega, by omega, h, by omega⟩

/-- A list that is through goes. -/
theorem Stk.pop {w : World} {C P W nx c p len cp : Nat} {a : Option Addr} {rest : List Frm} (h : Stk w C P ((.slice a len cp, nx, c, p) :: rest) 0 0 0 W) (hlt : ¬ nx < len) :
    ∃ (d : Nat) (ts : List (Tm d)), RdQ d w (.slice a len cp) ts ∧ cntL d ts = c ∧ depL d ts = p ∧ Stk w C P rest (c + 1) (c + 1) (p + 1) (W - 1) ∧ 0 < W := by
  obtain ⟨T, D, rc, rp, W', h1, h2, h3, h4, h5, h6⟩ := h
  obtain ⟨rfl, rfl, _⟩ := h1.done hlt
  obtain ⟨d, ts, g1, g2, g3, g4, _⟩ := h1
  have e1 : T = c := by omega
  have e2 : D = p := by omega
  subst e1 e2
  exact ⟨d, ts, g1, g3, g4, by rw [show W - 1 = W' from by omega]; exact h5, by omega⟩

theorem Stk.start {d : Nat} {w : World} {v : Value} {ts : List (Tm d)} (hr : RdQ d w v ts) : Stk w (cntL d ts) (depL d ts) [(v, 0, 0, 0)] 0 0 0 (2 * cntL d ts + 1) :=
  Stk.push (W := 0) (fs := []) hr rfl rfl ⟨rfl, rfl, rfl⟩ |> fun h => by simpa using h

end Go.Proofs.YtkkdnkdkelligaaGreatDoor

/- The parts of the walk through a term: what each function comes to. -/
namespace Go.Proofs.YtkkdnkdkelligaaGreatDoor
open Go.RowKit
set_option linter.unusedVariables false

theorem eqPtrTerm (w : World) (x y : Addr) (hx : Plain w x) (hy : Plain w y) (d : Nat) : (Op.equalIn (d + 1) 179 (.pointer (some x)) (.pointer (some y))).run Tryz.prog w = .ok (decide (x = y)) w := by
  obtain ⟨i0, hi, hi0, hi1, hi2⟩ := info_parts Tryz.infoTerm
  by_cases h : x = y
  · subst h
    simp [Op.equalIn, run_underlying Tryz.underlying179, sizeOf, typeInfo, hi, run_sameAddr_same]
  · obtain ⟨c1, t1, h1⟩ := hx
    obtain ⟨c2, t2, h2⟩ := hy
    have hz : i0.size ≠ 0 := by rw [hi1]; decide
    simp [Op.equalIn, run_underlying Tryz.underlying179, sizeOf, typeInfo, hi, hz, run_sameAddr_other w h h1 h2, h]

theorem eqInt3 (w : World) (n m : Int) (d : Nat) : (Op.equalIn (d + 1) 3 (.int .i64 n) (.int .i64 m)).run Tryz.prog w = .ok (n == m) w := by
  simp [Op.equalIn, run_underlying Tryz.underlying3]

theorem eqSpot (w : World) (x y : Addr) (n m : Int) (hx : Plain w x) (hy : Plain w y) (d : Nat) : (Op.equalIn (d + 1 + 1) 181 (skey x n) (skey y m)).run Tryz.prog w = .ok (decide (x = y ∧ n = m)) w := by
  have hp := eqPtrTerm w x y hx hy d
  have hn := eqInt3 w n m d
  unfold skey
  rw [Op.equalIn]
  simp only [Sem.run_bind, run_underlying Tryz.underlying181, Result.andThen_ok]
  by_cases h : x = y
  · by_cases h2 : n = m
    · subst h h2
      simp [part, Tryz.isAgg179, Tryz.isAgg3, hp, hn, Result.andThen]
    · subst h
      simp [part, Tryz.isAgg179, Tryz.isAgg3, hp, hn, h2, Result.andThen]
  · simp [part, Tryz.isAgg179, hp, h, Result.andThen]

theorem chkSpot (w : World) (em : Bool) (x : Addr) (n : Int) (d : Nat) : (Instr.checkKey em (d + 1 + 1) 181 (skey x n)).run Tryz.prog w = .ok () w := by
  have h1 : (Instr.checkKey em (d + 1) 179 (.pointer (some x))).run Tryz.prog w = .ok () w := by
    rw [Instr.checkKey]; simp [run_underlying Tryz.underlying179]
  have h2 : (Instr.checkKey em (d + 1) 3 (.int .i64 n)).run Tryz.prog w = .ok () w := by
    rw [Instr.checkKey]; simp [run_underlying Tryz.underlying3]
  unfold skey
  rw [Instr.checkKey]
  simp [run_underlying Tryz.underlying181, part, Tryz.isAgg179, Tryz.isAgg3, h1, h2, Result.andThen]

theorem spotTerm : SpotTy Tryz.prog 181 where
  wide := by rw [Tryz.underlying181]
  eq := fun w x y n m hx hy => eqSpot w x y n m hx hy 9998
  chk := fun w em x n => chkSpot w em x n 9998

theorem plus_any (x y : Int) (w : World) (hx : 0 ≤ x) (hx1 : x ≤ 1125899906842624) (hy : 0 ≤ y) (hy1 : y ≤ 1125899906842624) : Calls Tryz.prog 126 #[.int .i64 x, .int .i64 y] w fun e w' => e = .returned (.int .i64 (x + y)) ∧ w = w' := by
  have h : decide (9223372036854775807 - y < x) = false := by simp; omega
  go_enter Tryz.func126, Tryz.ntmps126
  go_wp2
  go_ret
  exact ⟨rfl, rfl⟩

theorem spotOf_any (b o n c : Nat) (w : World) (hn : 0 < n) (hn1 : n ≤ 9223372036854775807) : Calls Tryz.prog 115 #[.slice (some ⟨b, o, none⟩) n c] w fun e w' => e = .returned (.agg #[.pointer (some ⟨b, o, none⟩), .int .i64 n]) ∧ Below w.heap.size w w' := by
  go_enter Tryz.func115, Tryz.ntmps115
  go_wp2
  refine bodyPost_ret (v := .agg #[.pointer (some ⟨b, o, none⟩), .int .i64 n]) (by first | (simp [results, Tryz.results115, go_sem]; done) | (simp [results, Tryz.results115, go_sem]; rfl)) rfl ⟨rfl, ?_⟩
  exact (Below.refl _ _).alloc (Nat.le_refl _) _

end Go.Proofs.YtkkdnkdkelligaaGreatDoor

/- A measure is put to another one. -/
namespace Go.Proofs.YtkkdnkdkelligaaGreatDoor
open Go.RowKit
set_option linter.unusedVariables false

set_option maxHeartbeats 4000000 in
/-- A measure is put to another one. -/
theorem add_any (g o : Nat) (vs : Array Value) (c p c2 p2 : Nat) (w : World) (hg : w.heap[g]? = some (.cells vs 173 (0, 0))) (h0 : vs[o]? = some (.int .i64 c)) (h1 : vs[o + 1]? = some (.int .i64 p)) (hc : c ≤ 1099511627776) (hp : p ≤ 1099511627776) (hc2 : c2 ≤ 1099511627776) (hp2 : p2 ≤ 1099511627776) :
    Calls Tryz.prog 114 #[.pointer (some ⟨g, o, none⟩), .agg #[.int .i64 c2, .int .i64 p2]] w fun e w' => e = .returned (.tuple #[]) ∧ w'.heap[g]? = some (.cells ((vs.setIfInBounds o (.int .i64 (c + (c2 + 1) : Nat))).setIfInBounds (o + 1) (.int .i64 (max p (p2 + 1) : Nat))) 173 (0, 0)) ∧ Turned g w w' := by
  have hgz : g < w.heap.size := Nat.lt_of_not_le fun h => by rw [Array.getElem?_eq_none h] at hg; cases hg
  have c0 : w.cell? ⟨g, o, none⟩ = some (.int .i64 c) := by rw [cell_of_row w _ o _ _ _ hg]; exact h0
  have c1 : w.cell? ⟨g, o + 1, none⟩ = some (.int .i64 p) := by rw [cell_of_row w _ (o + 1) _ _ _ hg]; exact h1
  have y0 : w.frozen? ⟨g, o, none⟩ = false := frozen_of_row w _ _ _ _ hg
  have y1 : w.frozen? ⟨g, o + 1, none⟩ = false := frozen_of_row w _ _ _ _ hg
  have HP : Hid (∀ (x y : Int) (W : World), 0 ≤ x → x ≤ 1125899906842624 → 0 ≤ y → y ≤ 1125899906842624 → Calls Tryz.prog 126 #[.int .i64 x, .int .i64 y] W fun e w' => e = .returned (.int .i64 (x + y)) ∧ W = w') := fun x y W a b c d => plus_any x y W a b c d
  go_enter Tryz.func114, Tryz.ntmps114
  go_wp2_with fail
  go_region_with (go_at_call 126; refine (HP.out _ _ _ (by omega) (by omega) (by omega) (by omega)).mono ?_; rintro e w' ⟨rfl, rfl⟩)
  all_goals
    obtain ⟨X, hX⟩ : ∃ X, X = ((w.setCell ⟨g, o, none⟩ (.int .i64 (↑c + (↑c2 + 1)))).alloc (.cells #[.int .i64 ↑c2, .int .i64 ↑p2] 153)).drew := ⟨_, rfl⟩
    rw [← hX]
    have hXg : X.heap[g]? = some (.cells (vs.setIfInBounds o (.int .i64 (↑c + (↑c2 + 1)))) 173 (0, 0)) := by
      rw [hX]
      exact (Below.heap_alloc _ _ g (by simp; exact hgz)).trans (heap_setCell_same w g o _ _ _ hg)
    have hXl : X.heap[w.heap.size]? = some (.cells #[.int .i64 ↑c2, .int .i64 ↑p2] 153 (0, 0)) := by
      rw [hX]
      have := heap_alloc_new (w.setCell ⟨g, o, none⟩ (.int .i64 (↑c + (↑c2 + 1)))) (.cells #[.int .i64 ↑c2, .int .i64 ↑p2] 153)
      rw [show (w.setCell ⟨g, o, none⟩ (.int .i64 (↑c + (↑c2 + 1)))).heap.size = w.heap.size from by simp] at this
      exact this
    have hT : Turned g w X := by
      rw [hX]
      exact (Turned.of_set w g o _).trans (Turned.of_below (((Below.refl _ _).alloc (Nat.le_refl _) _).drew))
    have d1 : X.cell? ⟨g, o + 1, none⟩ = some (.int .i64 p) := by
      rw [cell_of_row X _ (o + 1) _ _ _ hXg, Array.getElem?_setIfInBounds_ne (by omega)]; exact h1
    have l1 : X.cell? ⟨w.heap.size, 1, none⟩ = some (.int .i64 p2) := by rw [cell_of_row X _ 1 _ _ _ hXl]; rfl
    have z1 : X.frozen? ⟨g, o + 1, none⟩ = false := frozen_of_row X _ _ _ _ hXg
    have HF : Hid (∀ Z : World, Below X.heap.size (X.setCell ⟨g, o + 1, none⟩ (.int .i64 (if (p : Int) < p2 + 1 then (p2 : Int) + 1 else p))) Z → Z.heap[g]? = some (.cells ((vs.setIfInBounds o (.int .i64 (c + (c2 + 1) : Nat))).setIfInBounds (o + 1) (.int .i64 (max p (p2 + 1) : Nat))) 173 (0, 0)) ∧ Turned g w Z) := fun Z hZ => by
      have hz : g < X.heap.size := by have := hT.size; omega
      have e : (if (p : Int) < p2 + 1 then (p2 : Int) + 1 else p) = ((max p (p2 + 1) : Nat) : Int) := by split <;> omega
      have e2 : ((c : Int) + ((c2 : Int) + 1)) = ((c + (c2 + 1) : Nat) : Int) := by omega
      refine ⟨?_, hT.trans ((Turned.of_set X g (o + 1) _).trans (Turned.of_below (by simpa using hZ)))⟩
      rw [hZ.block g hz, heap_setCell_same X g (o + 1) _ _ _ hXg, e, e2]
    clear hX hXg hXl hT c0 c1 y0 y1 hg h0 h1
    go_wp2_with fail
    go_region_with (go_at_call 126; refine (HP.out _ _ _ (by omega) (by omega) (by omega) (by omega)).mono ?_; rintro e w' ⟨rfl, rfl⟩)
    all_goals
      go_end0
      exact ⟨rfl, HF.out _ ((Below.refl _ _).drew)⟩

end Go.Proofs.YtkkdnkdkelligaaGreatDoor

/- What is known of a list. -/
namespace Go.Proofs.YtkkdnkdkelligaaGreatDoor
open Go.RowKit
set_option linter.unusedVariables false

/-- What is known of a list. -/
theorem measureKnown_empty (a : Option Addr) (c : Nat) (m : Value) (w : World) : Calls Tryz.prog 113 #[m, .slice a 0 c] w fun e w' => e = .returned (.tuple #[.agg #[.int .i64 0, .int .i64 0], .bool true]) ∧ Below w.heap.size w w' := by
  go_enter Tryz.func113, Tryz.ntmps113
  go_wp2_with fail
  refine bodyPost_ret (v := .tuple #[.agg #[.int .i64 0, .int .i64 0], .bool true]) (by first | (simp [results, Tryz.results113, go_sem]; done) | (simp [results, Tryz.results113, go_sem]; rfl)) rfl ⟨rfl, ?_⟩
  exact (Below.refl _ _).alloc (Nat.le_refl _) _

theorem measureKnown_any (b o n c : Nat) (B : Nat) (f : Addr → Int → Option Value) (w : World) (hn : 0 < n) (hn1 : n ≤ 9223372036854775807) (hM : SMap w B f) (hp : Plain w ⟨b, o, none⟩) (x y : Int) (k : Bool) (hf : (f ⟨b, o, none⟩ n).getD (.agg #[.int .i64 0, .int .i64 0]) = .agg #[.int .i64 x, .int .i64 y]) (hk : (f ⟨b, o, none⟩ n).isSome = k) :
    Calls Tryz.prog 113 #[.map (some B), .slice (some ⟨b, o, none⟩) n c] w fun e w' => e = .returned (.tuple #[.agg #[.int .i64 x, .int .i64 y], .bool k]) ∧ Below w.heap.size w w' := by
  have hB := hM.lt
  have HS : Hid (∀ W : World, Calls Tryz.prog 115 #[.slice (some ⟨b, o, none⟩) n c] W fun e w' => e = .returned (.agg #[.pointer (some ⟨b, o, none⟩), .int .i64 n]) ∧ Below W.heap.size W w') := fun W => spotOf_any b o n c W hn hn1
  have HM : Hid (∀ W : World, Below w.heap.size w W → SMap W B f ∧ Plain W ⟨b, o, none⟩) := fun W hW => ⟨hM.kept (hW.block B hB) (fun x n v _ hx => hx.later hW), hp.later hW⟩
  clear hM hp
  go_enter Tryz.func113, Tryz.ntmps113
  go_wp2_with fail
  refine (HS.out _).mono ?_
  rintro e w1 ⟨rfl, hb⟩
  have hB1 : Below w.heap.size w w1 := ((Below.refl _ w).alloc (Nat.le_refl _) _).trans (hb.mono (by simp))
  have hz1 : w.heap.size < w1.heap.size := Nat.lt_of_lt_of_le (by simp) hb.size
  have hres : w1.heap[w.heap.size]? = some (.cells #[.int .i64 0, .int .i64 0] 153 (0, 0)) := (hb.block _ (by simp)).trans (heap_alloc_new w _)
  have r0 : w1.cell? ⟨w.heap.size, 0, none⟩ = some (.int .i64 0) := by rw [cell_of_row w1 _ 0 _ _ _ hres]; rfl
  have r1 : w1.cell? ⟨w.heap.size, 1, none⟩ = some (.int .i64 0) := by rw [cell_of_row w1 _ 1 _ _ _ hres]; rfl
  have q0 : w1.frozen? ⟨w.heap.size, 0, none⟩ = false := frozen_of_row w1 _ _ _ _ hres
  have q1 : w1.frozen? ⟨w.heap.size, 1, none⟩ = false := frozen_of_row w1 _ _ _ _ hres
  have hres2 := heap_setCell_same (w1.setCell ⟨w.heap.size, 0, none⟩ (.int .i64 x)) w.heap.size 1 _ _ (.int .i64 y) (heap_setCell_same w1 w.heap.size 0 _ _ (.int .i64 x) hres)
  have hres3 := (Below.heap_alloc ((w1.setCell ⟨w.heap.size, 0, none⟩ (.int .i64 x)).setCell ⟨w.heap.size, 1, none⟩ (.int .i64 y)) (.cells #[.int .i64 x, .int .i64 y] 153) w.heap.size (by simp; exact hz1)).trans hres2
  have s0 : (((w1.setCell ⟨w.heap.size, 0, none⟩ (.int .i64 x)).setCell ⟨w.heap.size, 1, none⟩ (.int .i64 y)).alloc (.cells #[.int .i64 x, .int .i64 y] 153)).cell? ⟨w.heap.size, 0, none⟩ = some (.int .i64 x) := by rw [cell_of_row _ _ 0 _ _ _ hres3]; rfl
  have s1 : (((w1.setCell ⟨w.heap.size, 0, none⟩ (.int .i64 x)).setCell ⟨w.heap.size, 1, none⟩ (.int .i64 y)).alloc (.cells #[.int .i64 x, .int .i64 y] 153)).cell? ⟨w.heap.size, 1, none⟩ = some (.int .i64 y) := by rw [cell_of_row _ _ 1 _ _ _ hres3]; rfl
  have HBZ : Hid (Below w.heap.size w (((w1.setCell ⟨w.heap.size, 0, none⟩ (.int .i64 x)).setCell ⟨w.heap.size, 1, none⟩ (.int .i64 y)).alloc (.cells #[.int .i64 x, .int .i64 y] 153))) := hB1.trans ((((Turned.of_set w1 w.heap.size 0 _).trans (Turned.of_set _ w.heap.size 1 _)).trans (Turned.of_below ((Below.refl _ _).alloc (Nat.le_refl _) _))).below (Nat.le_refl _) (by omega))
  have S0 : Hid (_ = _) := s0
  have S1 : Hid (_ = _) := s1
  clear hb hres hres2 hres3 s0 s1
  obtain ⟨hM1, hp1⟩ := HM.out _ hB1
  have hz : ∀ W : World, (zeroValue 153).run Tryz.prog W = .ok (.agg #[.int .i64 0, .int .i64 0]) W := fun W => Tryz.zeroValue153 W
  go_wp2_with (first | (at_lookup; refine wpList_look_spot _ rfl _ _ 171 rfl 181 153 spotTerm Tryz.underlying171 (hz _) B f rfl hM1 _ _ rfl hp1 ?_; rw [hf, hk]) | go_in)
  have s0 := S0.out
  have s1 := S1.out
  refine bodyPost_ret (v := .tuple #[.agg #[.int .i64 x, .int .i64 y], .bool k]) (by first | (simp [results, Tryz.results113, go_sem, s0, s1]; done) | (simp [results, Tryz.results113, go_sem, s0, s1]; rfl)) rfl ⟨rfl, HBZ.out⟩

end Go.Proofs.YtkkdnkdkelligaaGreatDoor
