/- A bent term: the walk. -/
import Derived.Test.YtegfbpidlopfoaaBdM
import Derived.Test.YtegfbpidlopfoaaDrGtM
namespace Go.Proofs.Ytegfbpidlopfoaa
open Go.RowKit
set_option linter.unusedVariables false

set_option maxHeartbeats 400000 in
theorem l1OnceT_any (p len cap : Nat) (a : Option Addr) (zs : List Int) (n : Int) (w : World) (hc : Cur w p a len cap) (hr : IsRow .u8 w a len cap zs) (hne : ∀ x, a = some x → 0 < cap → x.block ≠ p) (hm : len ≤ 4611686018427387904) (hn : 0 < n) (hn' : n ≤ 4611686018427387904) :
    Calls Try.prog 12 #[.pointer (some ⟨p, 0, none⟩), .int .i64 n] w fun e w' => ∃ b : Bool, e = .returned (.bool b) ∧ Cur w' p a len cap ∧ w.grownBy w' (some p) := by
  have HB := l1Below_any p len cap a zs n w hc hr hne hm hn hn'
  clear hc hr hne
  go_enter Try.func12, Try.ntmps12
  go_wp2_with fail
  refine HB.mono ?_
  clear HB
  rintro e w1 ⟨y, hy0, hy1, rfl, hc1, hg1⟩
  go_wp2
  go_ret
  exact ⟨_, rfl, hc1, hg1⟩

/-- What a bend of a term hands on. -/
def BPost (p : Nat) (a : Option Addr) (len cap : Nat) (w w' : World) (k n : Int) (s : ByteArray) (v : Value) : Prop := AnyT w' w.heap.size k n s v 200 ∧ Cur w' p a len cap ∧ w.grownBy w' (some p)

/-- How a bend stands: the term's own block, the answer's, the drawer's, and what was there. -/
structure BMid (p : Nat) (a : Option Addr) (len cap : Nat) (w wr : World) (k n : Int) (s : ByteArray) (v : Value) (b : Nat) : Prop where
  box : wr.heap[w.heap.size]? = some (.cells #[.int .i64 k, .int .i64 n, .string s, v] 26 (0, 0))
  res : wr.heap[w.heap.size + 1]? = some (.cells #[.int .i64 0, .int .i64 0, .string ⟨#[]⟩, .slice none 0 0] 26 (0, 0))
  any : AnyT wr (w.heap.size + 1 + 1) k n s v b
  cur : Cur wr p a len cap
  grw : w.grownBy wr (some p)

theorem BMid.later {p len cap b : Nat} {a : Option Addr} {w wr V : World} {k n : Int} {s : ByteArray} {v : Value} (h : BMid p a len cap w wr k n s v b) (hp : p < w.heap.size) (hg : wr.grownBy V (some p)) (hc : Cur V p a len cap) : BMid p a len cap w V k n s v b := by
  have z := lt_of_row' h.res
  exact ⟨(hg.block _ (by omega) (by simp; omega)).trans h.box, (hg.block _ z (by simp; omega)).trans h.res, h.any.frame (fun g h1 h2 => hg.block g h2 (by simp; omega)) hg.size, hc, grownBy_trans h.grw hg⟩

/-- The term's own block turns. -/
theorem BMid.turn {p len cap b b' : Nat} {a : Option Addr} {w wr V : World} {k n k' n' : Int} {s s' : ByteArray} {v v' : Value} (h : BMid p a len cap w wr k n s v b) (hp : p < w.heap.size) (hT : Turned w.heap.size wr V) (hbx : V.heap[w.heap.size]? = some (.cells #[.int .i64 k', .int .i64 n', .string s', v'] 26 (0, 0))) (ha : AnyT V (w.heap.size + 1 + 1) k' n' s' v' b') :
    BMid p a len cap w V k' n' s' v' b' := by
  have z := lt_of_row' h.res
  exact ⟨hbx, (hT.block _ z (by omega)).trans h.res, ha, h.cur.same (hT.block p h.cur.lt (by omega)), ⟨hT.os.trans h.grw.os, hT.tape.trans h.grw.tape, hT.output.trans h.grw.output, Nat.le_trans h.grw.size hT.size, fun g hg hn => (hT.block g (Nat.lt_of_lt_of_le hg h.grw.size) (by omega)).trans (h.grw.block g hg hn)⟩⟩

/-- .. by a store into one of its fields. -/
theorem BMid.set {p len cap b j : Nat} {a : Option Addr} {w wr : World} {k n k' n' : Int} {s s' : ByteArray} {v u : Value} (h : BMid p a len cap w wr k n s v b) (hp : p < w.heap.size) (hbx : (#[.int .i64 k, .int .i64 n, .string s, v] : Array Value).setIfInBounds j u = #[.int .i64 k', .int .i64 n', .string s', v]) (hk : I64 k') (hn : I64 n') (hs : s'.size ≤ 100) :
    BMid p a len cap w (wr.setCell ⟨w.heap.size, j, none⟩ u) k' n' s' v b :=
  h.turn hp (Turned.of_set _ _ _ _) (by rw [heap_setCell_same wr _ j _ _ _ h.box, hbx]) ((h.any.turn hk hn hs).frame (fun g h1 h2 => heap_setCell_other _ _ _ _ (by show g ≠ w.heap.size; omega)) (by simp))

/-- The answer is laid. -/
theorem BMid.fin {p len cap b : Nat} {a : Option Addr} {w wr Z : World} {k n : Int} {s : ByteArray} {v : Value} (h : BMid p a len cap w wr k n s v b) (hp : p < w.heap.size) (hb : b ≤ 200) (hT : Turned (w.heap.size + 1) wr Z) : BPost p a len cap w Z k n s v := by
  exact ⟨((h.any.frame (fun g h1 h2 => hT.block g h2 (by omega)) hT.size).low (by omega)).up hb, h.cur.same (hT.block p h.cur.lt (by omega)), ⟨hT.os.trans h.grw.os, hT.tape.trans h.grw.tape, hT.output.trans h.grw.output, Nat.le_trans h.grw.size hT.size, fun g hg hn => (hT.block g (Nat.lt_of_lt_of_le hg h.grw.size) (by omega)).trans (h.grw.block g hg hn)⟩⟩

theorem four_cells {w : World} {g : Nat} {x0 x1 x2 x3 : Value} {t : TypeId} (h : w.heap[g]? = some (.cells #[x0, x1, x2, x3] t (0, 0))) : w.cell? ⟨g, 0, none⟩ = some x0 ∧ w.cell? ⟨g, 1, none⟩ = some x1 ∧ w.cell? ⟨g, 2, none⟩ = some x2 ∧ w.cell? ⟨g, 3, none⟩ = some x3 ∧ w.frozen? ⟨g, 0, none⟩ = false ∧ w.frozen? ⟨g, 1, none⟩ = false ∧ w.frozen? ⟨g, 2, none⟩ = false ∧ w.frozen? ⟨g, 3, none⟩ = false :=
  ⟨by rw [cell_of_row w _ 0 _ _ _ h]; rfl, by rw [cell_of_row w _ 1 _ _ _ h]; rfl, by rw [cell_of_row w _ 2 _ _ _ h]; rfl, by rw [cell_of_row w _ 3 _ _ _ h]; rfl, frozen_of_row w _ _ _ _ h, frozen_of_row w _ _ _ _ h, frozen_of_row w _ _ _ _ h, frozen_of_row w _ _ _ _ h⟩

def bdN : List Int := [-1, 1000000000001, 1000001, 3]
def bdS : List ByteArray := [⟨#[]⟩, ⟨#[65]⟩, ⟨#[120]⟩, ⟨#[116, 119, 101, 110, 116, 121, 111, 110, 101, 98, 121, 116, 101, 115, 116, 119, 101, 110, 116, 121, 111]⟩]
theorem bdS_ok : ∀ x ∈ bdS, x.size ≤ 100 := by
  unfold bdS; simp only [List.forall_mem_cons, List.not_mem_nil, false_implies, implies_true, and_true]; decide

/-- A leaf more in a list of the call's own. -/
theorem any_snoc {B lo : Nat} {w V w' : World} {v v' : Value} {ts : List (Tm 3)} {fp : List Nat} {cs : List Value} {k n : Int} {s : ByteArray} (hM : Made 3 B w v ts fp) (hrow : w.ownsRow B 26 4 v ts.length cs) (hV : Below w.heap.size w V) (hl : ts.length ≤ 100) (hc : cntL 3 ts ≤ 64) (hlo : lo ≤ B) (hBz : B ≤ w.heap.size) (hk : I64 k) (hn : I64 n) (hs : s.size ≤ 100)
    (hown : w'.ownsRow B 26 4 v' (ts.length + 1) (cs ++ [.int .i64 1, .int .i64 4, .string ⟨#[]⟩, .slice none 0 0])) (hgr : V.grownBy w' v.ownBlock) (hat : v'.ownBlock = v.ownBlock ∨ v'.ownBlock = some V.heap.size) : AnyT w' lo k n s v' 65 := by
  obtain ⟨cs', fps, r1, r2, r3, r4, r5, r6⟩ := hM
  obtain rfl := row_cs r1 hrow
  subst r3
  have hkp : ∀ g ∈ v.ownBlock.toList ++ fps.flatten, V.heap[g]? = w.heap[g]? := fun g hg => hV.block g (r4.2 g hg).2
  obtain ⟨fp', hm, _⟩ := made_step (w := V) (t := mkT 1 4 ⟨#[]⟩ []) (f := []) (lv := .slice none 0 0) (rowKept r1 fun g hg => hkp g (List.mem_append_left _ (by rw [hg]; exact List.mem_singleton.2 rfl))) r2 ⟨r4.1, fun g hg => ⟨(r4.2 g hg).1, Nat.lt_of_lt_of_le (r4.2 g hg).2 hV.size⟩⟩ r5 (r6.frame fun g hg => hkp g (List.mem_append_right _ hg))
    (ownL_nil 2 V) ⟨List.nodup_nil, fun g hg => by cases hg⟩ (fun g hg => by cases hg) ⟨⟨by show _ ≤ (1 : Int); omega, by show (1 : Int) ≤ _; omega⟩, ⟨by show _ ≤ (4 : Int); omega, by show (4 : Int) ≤ _; omega⟩, Nat.zero_le _, wfL_nil 2⟩ (by omega) (Nat.le_trans hBz hV.size) hown hgr hat
  obtain ⟨a', l', c', f3, e3, q1, q2, q3⟩ := hm.own
  refine ⟨3, _, f3, q1, fun g hg => ⟨Nat.le_trans hlo (q2.2 g hg).1, (q2.2 g hg).2⟩, q3, hk, hn, hs, ?_⟩
  have : ∀ l : List (Tm 3), cntL 3 (l ++ [mkT 1 4 ⟨#[]⟩ []]) = cntL 3 l + 1 := fun l => by
    show (List.map _ _).sum = (List.map _ _).sum + 1
    rw [List.map_append, List.sum_append]
    rfl
  rw [this]
  omega

end Go.Proofs.Ytegfbpidlopfoaa
