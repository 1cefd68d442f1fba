/- The pieces that the program's PutCode joins: one behind the other they are the bytes of the code. -/
import Derived.Test.YtfachfimdenapaaDoorPc0M
import Derived.Test.YtfachfimdenapaaDoorPc6M
import Derived.Test.YtfachfimdenapaaDoorPc5M
namespace Go.Proofs.YtfachfimdenapaaDoor
open Go.RowKit
set_option linter.unusedVariables false

/-- The pieces, in their order. -/
def pcs {d : Nat} (c : DCode d) : List (List Int) := ((enc (code c.Fns.length) :: c.Fns.map encFn) ++ [enc (code c.Pats.length)]) ++ c.Pats.map (encPt d)
theorem pcs_flat {d : Nat} (c : DCode d) : (pcs c).flatten = encC c := by
  unfold pcs encC
  simp [List.flatMap_def, List.append_assoc]
theorem pcs_len {d : Nat} (c : DCode d) : (pcs c).length = c.Fns.length + c.Pats.length + 2 := by
  unfold pcs
  simp
  omega
theorem pcs_le {d : Nat} (c : DCode d) (hz : szCodeD d c ≤ 1048576) : (pcs c).flatten.length ≤ 1073741824 := by
  rw [pcs_flat]
  have := encC_le c
  omega

/-- A row of bytes of its own may be read as bytes. -/
theorem rd_of_br {B : Nat} {w : World} {v : Value} {zs : List Int} (h : BR B w v zs) : ∃ a c, v = .slice a zs.length c ∧ Rd w a zs.length zs := by
  obtain ⟨g, c, rfl, ho⟩ := h
  refine ⟨_, c, rfl, rfl, fun i hi => ⟨g, 0, rfl, ?_⟩⟩
  rcases ho.2 with ⟨h', _⟩ | ⟨g', cap', cur, h', _, hg, _, _, hs, htk⟩
  · simp at h'
  · simp only [Value.slice.injEq, Option.some.injEq, Addr.mk.injEq, and_true, true_and] at h'
    obtain ⟨rfl, rfl⟩ := h'
    have hi' : i < (zs.map (Value.int .u8)).length := by simpa using hi
    have h2 : cur.toList[i]? = some (.int .u8 (zs.getD i 0)) := by
      have h3 : (cur.toList.take zs.length)[i]? = some (.int .u8 (zs.getD i 0)) := by
        rw [Nat.mul_one] at htk
        rw [htk]
        simp [hi]
      rw [List.getElem?_take] at h3
      simpa [hi] using h3
    rw [Nat.zero_add, cell_of_row w _ i _ _ _ hg]
    simpa using h2

end Go.Proofs.YtfachfimdenapaaDoor

/- The row of pieces that PutCode builds. -/
namespace Go.Proofs.YtfachfimdenapaaDoor
open Go.RowKit
set_option linter.unusedVariables false

/-- An own row of bytes may be read as bytes. -/
theorem rd_of_ob {B : Nat} {w : World} {v : Value} {zs : List Int} (h : OB B w v zs) : ∃ a c, v = .slice a zs.length c ∧ Rd w a zs.length zs := by
  rcases h.2 with ⟨hv, hn⟩ | ⟨g, cap, cur, hv, _⟩
  · have h0 : zs.length = 0 := by simpa using hn
    obtain rfl : zs = [] := List.eq_nil_of_length_eq_zero h0
    exact ⟨none, 0, hv, rfl, fun i hi => absurd hi (by simp)⟩
  · exact rd_of_br (B := B) ⟨g, cap, hv, h⟩
theorem ob_nil (B : Nat) (w : World) : OB B w (.slice none 0 0) [] := ⟨rfl, .inl ⟨rfl, rfl⟩⟩

/-- A row of pieces that grows: the row is owned, and so is each piece. -/
def PO (B : Nat) (w : World) (v : Value) (ps : List (List Int)) (us : List Value) : Prop :=
  w.ownsRow B 27 1 v ps.length us ∧ ∀ (i : Nat) (p : List Int), ps[i]? = some p → ∃ u, us[i]? = some u ∧ OB 0 w u p

theorem ob_low {B : Nat} {w : World} {v : Value} {zs : List Int} (h : OB B w v zs) : OB 0 w v zs := by
  obtain ⟨h1, h2⟩ := h
  refine ⟨h1, ?_⟩
  rcases h2 with h2 | ⟨g, c, cur, e1, e2, e3⟩
  · exact .inl h2
  · exact .inr ⟨g, c, cur, e1, Nat.zero_le _, e3⟩
theorem ob_later {B : Nat} {w w' : World} {v : Value} {zs : List Int} (h : OB B w v zs) (hb : Below w.heap.size w w') : OB B w' v zs :=
  rowKeptB h fun g hg => hb.block g (own_blkB h g hg).2
/-- A byte row and a row of rows lie in blocks of their own. -/
theorem ob_apart {B n : Nat} {w : World} {v u : Value} {us : List Value} {zs : List Int} (h : w.ownsRow B 27 1 v n us) (hu : OB 0 w u zs) : ∀ g, u.ownBlock = some g → v.ownBlock ≠ some g := fun g hg hv => by
  rcases hu.2 with ⟨e, _⟩ | ⟨g1, c1, cur1, e1, _, q1, _⟩
  · rw [e] at hg; cases hg
  · rcases h.2 with ⟨e, _⟩ | ⟨g2, c2, cur2, e2, _, q2, _⟩
    · rw [e] at hv; cases hv
    · rw [e1] at hg
      rw [e2] at hv
      obtain rfl : g1 = g := by simpa [Value.ownBlock] using hg
      obtain rfl : g2 = g1 := by simpa [Value.ownBlock] using hv
      rw [q1] at q2
      cases q2
theorem ob_grown {B n : Nat} {w w' : World} {v u : Value} {us : List Value} {zs : List Int} (h : w.ownsRow B 27 1 v n us) (hu : OB 0 w u zs) (hg : w.grownBy w' v.ownBlock) : OB 0 w' u zs :=
  rowKeptB hu fun g hk => hg.block g (own_blkB hu g hk).2 (fun e => ob_apart h hu g hk e.symm)
theorem PO.later {B : Nat} {w w' : World} {v : Value} {ps : List (List Int)} {us : List Value} (h : PO B w v ps us) (hb : Below w.heap.size w w') : PO B w' v ps us :=
  ⟨rowKeptB h.1 fun g hg => hb.block g (own_blkB h.1 g hg).2, fun i p hp => by
    obtain ⟨u, h1, h2⟩ := h.2 i p hp
    exact ⟨u, h1, ob_later h2 hb⟩⟩
/-- One piece more. -/
theorem PO.app {B : Nat} {w w' : World} {v v' u : Value} {ps : List (List Int)} {us : List Value} {p : List Int} (h : PO B w v ps us) (hl : us.length = ps.length) (hu : OB 0 w u p) (ho : w'.ownsRow B 27 1 v' (ps.length + 1) (us ++ [u])) (hg : w.grownBy w' v.ownBlock) : PO B w' v' (ps ++ [p]) (us ++ [u]) :=
  ⟨by rw [List.length_append]; exact ho, fun i q hq => by
    by_cases hi : i < ps.length
    · rw [List.getElem?_append_left hi] at hq
      obtain ⟨x, h1, h2⟩ := h.2 i q hq
      exact ⟨x, by rw [List.getElem?_append_left (by omega)]; exact h1, ob_grown h.1 h2 hg⟩
    · have hi2 : i = ps.length := by
        have := (List.getElem?_eq_some_iff.1 hq).1
        simp at this
        omega
      subst hi2
      rw [List.getElem?_append_right (Nat.le_refl _)] at hq
      simp at hq
      subst hq
      exact ⟨u, by rw [← hl]; simp, ob_grown h.1 hu hg⟩⟩
/-- What joinedBytes is asked of. -/
theorem PO.pcs {B : Nat} {w : World} {v : Value} {ps : List (List Int)} {us : List Value} (h : PO B w v ps us) (hn : ps ≠ []) : PcsR w v ps := by
  obtain ⟨ho, hp⟩ := h
  have hpos : 0 < ps.length := List.length_pos_iff.2 hn
  rcases ho.2 with ⟨e, h0⟩ | ⟨g, c, cur, e, _, q, _, _, hs, htk⟩
  · omega
  · refine ⟨g, c, e, fun i p hi => ?_⟩
    obtain ⟨u, h1, h2⟩ := hp i p hi
    obtain ⟨a, c', rfl, hrd⟩ := rd_of_ob h2
    refine ⟨a, c', ?_, hrd⟩
    have hil := (List.getElem?_eq_some_iff.1 hi).1
    rw [cell_of_row w _ i _ _ _ q]
    rw [Nat.mul_one] at htk
    have h3 : (cur.toList.take ps.length)[i]? = some (.slice a p.length c') := by rw [htk]; exact h1
    rw [List.getElem?_take] at h3
    simpa [hil] using h3

end Go.Proofs.YtfachfimdenapaaDoor

/- The program's PutCode. -/
namespace Go.Proofs.YtfachfimdenapaaDoor
open Go.RowKit
set_option linter.unusedVariables false

/-- What PutCode answers: the bytes of the code in new memory, or none. -/
def PcP (P : Prop) (w : World) (zs : List Int) (e : Ending) (w' : World) : Prop :=
  Below w.heap.size w w' ∧ ((¬ P ∧ e = .returned (.slice none 0 0)) ∨ (P ∧ ∃ v, e = .returned v ∧ BR w.heap.size w' v zs))

theorem Tryd.infoBytes : (Tryd.prog.info? 27).map (fun i => (i.zero, i.size, i.bytes)) = some (some (.slice none 0 0), 1, 24) := by kernel_rfl

theorem ob_lower {B B' : Nat} {w : World} {v : Value} {zs : List Int} (h : OB B w v zs) (hb : B' ≤ B) : OB B' w v zs := by
  obtain ⟨h1, h2⟩ := h
  refine ⟨h1, ?_⟩
  rcases h2 with h2 | ⟨g, c, cur, e1, e2, e3⟩
  · exact .inl h2
  · exact .inr ⟨g, c, cur, e1, Nat.le_trans hb e2, e3⟩

/-- The first k pieces stand in the row. -/
def PK {d : Nat} (c : DCode d) (B : Nat) (w : World) (v : Value) (k : Nat) : Prop := ∃ us : List Value, us.length = k ∧ PO B w v ((pcs c).take k) us
theorem take_more {α : Type} {l : List α} {k : Nat} {x : α} (h : l[k]? = some x) : l.take (k + 1) = l.take k ++ [x] := by
  have h1 := List.getElem?_eq_some_iff.1 h
  rw [List.take_succ_eq_append_getElem h1.1, h1.2]
theorem take_len {α : Type} {l : List α} {k : Nat} {x : α} (h : l[k]? = some x) : (l.take k).length = k := by
  have := (List.getElem?_eq_some_iff.1 h).1
  simp
  omega
theorem PK.later {d : Nat} {c : DCode d} {B k : Nat} {w w' : World} {v : Value} (h : PK c B w v k) (hb : Below w.heap.size w w') : PK c B w' v k := by
  obtain ⟨us, h1, h2⟩ := h
  exact ⟨us, h1, h2.later hb⟩
theorem PK.row {d : Nat} {c : DCode d} {B k : Nat} {w : World} {v : Value} {p : List Int} (h : PK c B w v k) (hp : (pcs c)[k]? = some p) : ∃ us : List Value, us.length = k ∧ w.ownsRow B 27 1 v k us ∧ (∀ (w' : World) (v' u : Value), OB 0 w u p → w'.ownsRow B 27 1 v' (k + 1) (us ++ [u]) → w.grownBy w' v.ownBlock → PK c B w' v' (k + 1)) := by
  obtain ⟨us, h1, h2⟩ := h
  have hl := take_len hp
  have h3 := h2.1
  rw [hl] at h3
  refine ⟨us, h1, h3, fun w' v' u hu ho hg => ⟨us ++ [u], by simp [h1], ?_⟩⟩
  rw [take_more hp]
  exact h2.app (by rw [hl]; exact h1) hu (by rw [hl]; exact ho) hg
theorem pk_next {d : Nat} {c : DCode d} {B k : Nat} {w0 V : World} {v : Value} {p : List Int} {a : Option Addr} {cp : Nat} (h : PK c B V v k) (hp : (pcs c)[k]? = some p) (hu : OB 0 V (.slice a p.length cp) p) (hb : Below B w0 V) (hB : B ≤ V.heap.size) :
    ∃ us : List Value, (V.alloc (.cells #[.slice a p.length cp] 27)).ownsRow B 27 1 v k us ∧ ∀ (v' : Value) (w' : World), w'.ownsRow B 27 1 v' (k + 1) (us ++ [.slice a p.length cp]) → (V.alloc (.cells #[.slice a p.length cp] 27)).grownBy w' v.ownBlock → Hid (PK c B w' v' (k + 1)) ∧ Hid (Below B w0 w') := by
  have hA : Below V.heap.size V (V.alloc (.cells #[.slice a p.length cp] 27)) := (Below.refl _ _).alloc (Nat.le_refl _) _
  obtain ⟨us, h1, h2, h3⟩ := (h.later hA).row hp
  exact ⟨us, h2, fun v' w' ho hg => ⟨h3 w' v' _ (ob_alloc hu) ho hg, (hb.alloc hB _).grown hg (by simp; omega) (fun k hk => (h2.lt k hk).1)⟩⟩
theorem pcs_fst {d : Nat} (c : DCode d) : (pcs c)[0]? = some (enc (code c.Fns.length)) := by
  unfold pcs; simp
theorem pcs_fn {d : Nat} {c : DCode d} {j : Nat} {f : DFn} (h : c.Fns[j]? = some f) : (pcs c)[j + 1]? = some (encFn f) := by
  have hj := (List.getElem?_eq_some_iff.1 h).1
  unfold pcs
  rw [List.getElem?_append_left (by simp <;> omega), List.getElem?_append_left (by simp <;> omega)]
  simp [h]
theorem pcs_mid {d : Nat} (c : DCode d) : (pcs c)[c.Fns.length + 1]? = some (enc (code c.Pats.length)) := by
  unfold pcs
  rw [List.getElem?_append_left (by simp), List.getElem?_append_right (by simp)]
  simp
theorem pcs_pat {d : Nat} {c : DCode d} {j : Nat} {p : Tm d} (h : c.Pats[j]? = some p) : (pcs c)[c.Fns.length + 2 + j]? = some (encPt d p) := by
  unfold pcs
  rw [List.getElem?_append_right (by simp <;> omega)]
  have : c.Fns.length + 2 + j - ((enc (code c.Fns.length) :: c.Fns.map encFn) ++ [enc (code c.Pats.length)]).length = j := by simp <;> omega
  rw [this]
  simp [h]

set_option maxRecDepth 100000 in
set_option maxHeartbeats 4000000 in
theorem putCode_any (d : Nat) (vs : List Value) (c : DCode d) (w : World) (hc : CodeR d w vs c) (hwc : WfCode d c) (hz : szCodeD d c ≤ 1048576) (ht : ShOk w) :
    Calls Tryd.prog 7 #[.agg vs.toArray] w fun e w' => PcP (CanP d c) w (encC c) e w' := by
  have hz' : szRow szFnD c.Fns + szRow (szPatD d) c.Pats ≤ 1048576 := hz
  obtain ⟨W, hW⟩ : ∃ W, W = w.alloc (.cells vs.toArray 32) := ⟨_, rfl⟩
  have hA : Below w.heap.size w W := by rw [hW]; exact (Below.refl _ _).alloc (Nat.le_refl _) _
  have hCK := canBePut_any d vs c W (CodeR.lasts d _ _ _ _ hc hA) hwc hz (ht.later hA)
  obtain ⟨v0, v1, rfl, h0, h1⟩ := hc
  obtain ⟨a0, c0, rfl⟩ := h0.slice
  obtain ⟨a1, c1, rfl⟩ := h1.slice
  have HR0 : Hid (RowOf 4 FnR w (.slice a0 c.Fns.length c0) c.Fns) := h0
  have HR1 : Hid (RowOf 4 (PatR d) w (.slice a1 c.Pats.length c1) c.Pats) := h1
  have hrow : W.heap[w.heap.size]? = some (.cells #[.slice a0 c.Fns.length c0, .slice a1 c.Pats.length c1] 32 (0, 0)) := by rw [hW]; exact heap_alloc_new w _
  have HROW : Hid (W.heap[w.heap.size]? = some (.cells #[.slice a0 c.Fns.length c0, .slice a1 c.Pats.length c1] 32 (0, 0))) := hrow
  rw [hW] at hCK
  have HW : Hid (W = _) := hW
  have HA : Hid (Below w.heap.size w W) := hA
  have HWC : Hid (WfCode d c ∧ szRow szFnD c.Fns + szRow (szPatD d) c.Pats ≤ 1048576) := ⟨hwc, hz'⟩
  clear h0 h1 hwc hz hz' ht hW hA hrow
  go_enter Tryd.func7, Tryd.ntmps7
  go_wp2_with fail
  refine hCK.mono ?_
  clear hCK
  rintro e w1 ⟨r, rfl, hr, hb⟩
  rw [← HW.out] at hb
  have HB : Hid (Below W.heap.size W w1 ∧ (r = true ↔ CanP d c)) := ⟨hb, hr⟩
  have hbw := HA.out.trans (hb.mono HA.out.size)
  have HBW : Hid (Below w.heap.size w w1) := hbw
  have hr1 := (hb.block _ (lt_row HROW.out)).trans HROW.out
  have x0 : w1.cell? ⟨w.heap.size, 0, none⟩ = some (.slice a0 c.Fns.length c0) := by rw [cell_of_row w1 _ 0 _ _ _ hr1]; rfl
  clear hr hb hbw hr1
  cases r with
  | false =>
    have HF : Hid (¬ CanP d c) := fun h => by have := HB.out.2.2 h; cases this
    go_wp2_with fail
    go_ret
    exact ⟨HBW.out, .inl ⟨HF.out, rfl⟩⟩
  | true =>
    have HOK : Hid (CanP d c) := HB.out.2.1 rfl
    have hk : c.Fns.length ≤ 1048576 := by
      have := HWC.out.2
      have h2 : c.Fns.length ≤ szRow szFnD c.Fns := Nat.le_add_right _ _
      omega
    have HN1 : Hid (∀ (V : World) (c0 : Nat), V.heap[c0]? = some (.cells #[.int .i64 (c.Fns.length : Int)] 3 (0, 0)) → Calls Tryd.prog 23 #[.slice none 0 0, .slice (some ⟨c0, 0, none⟩) 1 1] V fun e w' => ∃ v', e = .returned v' ∧ Hid (OB V.heap.size w' v' ([] ++ encs [(c.Fns.length : Int)])) ∧ Kp V.heap.size V w') := fun V c0 h3 => nums_any (.slice none 0 0) [] V.heap.size c0 1 [(c.Fns.length : Int)] V (ob_nil _ _) (Nat.le_refl _) h3 (by simp) (fun N hN => by simp at hN; subst hN; exact ⟨by omega, by omega⟩) (by simp)
    go_wp2_with fail
    refine (HN1.out _ _ (al_new rfl)).mono ?_
    clear HN1
    rintro e w2 ⟨v', rfl, HV, hkp⟩
    have he : ([] : List Int) ++ encs [(c.Fns.length : Int)] = enc (code c.Fns.length) := by simp [encs]
    rw [he] at HV
    obtain ⟨b, cb, rfl, hrd⟩ := rd_of_ob HV.out
    have hb2 : Below w.heap.size w w2 := (HBW.out.alloc HBW.out.size _).trans (hkp.bel.mono (by have := HBW.out.size; simp; omega))
    have HB2 : Hid (Below w.heap.size w w2) := hb2
    have HRD : Hid (Rd w2 b (enc (code c.Fns.length)).length (enc (code c.Fns.length))) := hrd
    have hlt : w.heap.size < W.heap.size := lt_row HROW.out
    have hs1 := HB.out.1.size
    have hr1 : w1.heap[w.heap.size]? = some (.cells #[.slice a0 c.Fns.length c0, .slice a1 c.Pats.length c1] 32 (0, 0)) := (HB.out.1.block _ hlt).trans HROW.out
    have hr2 : w2.heap[w.heap.size]? = some (.cells #[.slice a0 c.Fns.length c0, .slice a1 c.Pats.length c1] 32 (0, 0)) := (hkp.bel.block _ (lt_row (al1 hr1))).trans (al1 hr1)
    have HR2 : Hid (w2.heap[w.heap.size]? = some (.cells #[.slice a0 c.Fns.length c0, .slice a1 c.Pats.length c1] 32 (0, 0))) := hr2
    clear he hkp hrd hb2 x0 hlt hs1 hr1 hr2
    have x0 : (w2.alloc (.cells #[.slice b (enc (code c.Fns.length)).length cb] 27)).cell? ⟨w.heap.size, 0, none⟩ = some (.slice a0 c.Fns.length c0) := by rw [cell_of_row _ _ 0 _ _ _ (al1 HR2.out)]; rfl
    go_wp2_with fail
    have HS2 : Hid (w.heap.size < w2.heap.size) := lt_row HR2.out
    have HP0 : Hid (PK c w2.heap.size (w2.alloc (.cells #[.slice b (enc (code c.Fns.length)).length cb] 27)) (.slice (some ⟨w2.heap.size, 0, none⟩) 1 1) 1) := by
      refine ⟨[.slice b (enc (code c.Fns.length)).length cb], rfl, ?_, ?_⟩
      · have hl : ((pcs c).take 1).length = 1 := by have := pcs_len c; simp; omega
        rw [hl]
        exact ⟨rfl, .inr ⟨w2.heap.size, 1, #[.slice b (enc (code c.Fns.length)).length cb], rfl, Nat.le_refl _, heap_alloc_new w2 _, Nat.le_refl _, by decide, rfl, rfl⟩⟩
      · intro i p hp
        have h0 : (pcs c).take 1 = [enc (code c.Fns.length)] := by rw [take_more (pcs_fst c)]; simp
        rw [h0] at hp
        cases i with
        | zero =>
          simp at hp
          subst hp
          exact ⟨_, rfl, ob_low (ob_alloc HV.out)⟩
        | succ i => simp at hp
    clear HRD x0 HV
    obtain ⟨i0, hi, hz0, hz1, hz2⟩ := info_parts Tryd.infoBytes
    obtain ⟨B, hB⟩ : ∃ B, w2.heap.size = B := ⟨_, rfl⟩
    obtain ⟨W2, hW2⟩ : ∃ W2, w2.alloc (.cells #[.slice b (enc (code c.Fns.length)).length cb] 27) = W2 := ⟨_, rfl⟩
    have HB3 : Hid (Below B w2 W2) := by rw [← hB, ← hW2]; exact (Below.refl _ _).alloc (Nat.le_refl _) _
    rw [hB, hW2] at HP0
    have HBS : Hid (w2.heap.size = B) := hB
    rw [hB] at HS2
    rw [hB, hW2]
    clear hB hW2
    have hlen := pcs_len c
    have hflen : c.Fns.length ≤ 1048576 := hk
    have hplen : c.Pats.length ≤ 1048576 := by
      have h2 : c.Pats.length ≤ szRow (szPatD d) c.Pats := Nat.le_add_right _ _
      have := HWC.out.2
      omega
    have HDN : Hid (∀ V : World, Below B w2 V → Below w.heap.size w V ∧ V.heap[w.heap.size]? = some (.cells #[.slice a0 c.Fns.length c0, .slice a1 c.Pats.length c1] 32 (0, 0)) ∧ B ≤ V.heap.size) := fun V hV => by
      have hV' : Below w2.heap.size w2 V := by rw [HBS.out]; exact hV
      exact ⟨HB2.out.trans (hV'.mono HB2.out.size), (hV'.block _ (lt_row HR2.out)).trans HR2.out, by rw [← HBS.out]; exact hV'.size⟩
    obtain ⟨n0, hn0⟩ : ∃ n, c.Fns.length = n := ⟨_, rfl⟩
    have HN0 : Hid (c.Fns.length = n0) := hn0
    rw [hn0]
    rw [hn0] at hflen hlen hk
    clear hn0
    go_loopw [3, 20] (fun P i wr => ∃ j : Nat, j ≤ n0 ∧ i = .int .i64 j ∧ Hid (PK c B wr P (j + 1)) ∧ Hid (Below B w2 wr)) (fun _ i _ => n0 - (intOf i).toNat)
    case atStart => exact ⟨0, Nat.zero_le _, rfl, HP0.out, HB3.out⟩
    case round =>
      obtain ⟨j, hj, rfl, HPK, HBJ⟩ := hrel
      clear HP0
      by_cases hjl : j < n0
      · obtain ⟨f, hf⟩ : ∃ f, c.Fns[j]? = some f := ⟨_, List.getElem?_eq_getElem (by rw [HN0.out]; exact hjl)⟩
        obtain ⟨D1, D2, D3⟩ := HDN.out wr HBJ.out
        obtain ⟨b1, o1, a3, c3, ea, f0, f1, f2, f3, g0⟩ := Fn_at (HR0.out.later FnR.lasts D1) j f hf
        subst ea
        have hfz : szFnD f ≤ 1048576 := Nat.le_trans (szRow_mem hf) (by have := HWC.out.2; omega)
        obtain ⟨W5, hW5⟩ : ∃ W, W = wr.alloc (.cells #[.string f.Name, .int .i64 f.Args, .int .i64 f.Slots, .slice a3 f.Ins.length c3] 45) := ⟨_, rfl⟩
        have hA5 : Below wr.heap.size wr W5 := by rw [hW5]; exact (Below.refl _ _).alloc (Nat.le_refl _) _
        have hC := fnBytes_any _ f W5 ⟨_, rfl, g0.later InsR.lasts hA5⟩ (HWC.out.1.1.2 f (List.mem_of_getElem? hf)) hfz
        have HPF : Hid ((pcs c)[j + 1]? = some (encFn f)) := pcs_fn hf
        have hfl : (encFn f).length ≤ 1073741824 := by have := encFn_le f; omega
        obtain ⟨NM, hNM⟩ : ∃ x, f.Name = x := ⟨_, rfl⟩
        obtain ⟨AR, hAR⟩ : ∃ x, f.Args = x := ⟨_, rfl⟩
        obtain ⟨SL, hSL⟩ : ∃ x, f.Slots = x := ⟨_, rfl⟩
        obtain ⟨LI, hLI⟩ : ∃ x, f.Ins.length = x := ⟨_, rfl⟩
        rw [hNM] at f0 hC hW5
        rw [hAR] at f1 hC hW5
        rw [hSL] at f2 hC hW5
        rw [hLI] at f3 hC hW5
        rw [hW5] at hC
        have HD3 : Hid (B ≤ wr.heap.size ∧ Below wr.heap.size wr W5 ∧ W5 = _) := ⟨D3, hA5, hW5⟩
        clear D1 D2 D3 g0 hf hNM hAR hSL hLI hfz hA5 hW5
        go_wp2_with fail
        refine hC.mono ?_
        clear hC f0 f1 f2 f3
        rintro e V ⟨u, rfl, HU, hK⟩
        rw [← HD3.out.2.2] at HU hK
        obtain ⟨ua, uc, rfl, _⟩ := rd_of_ob HU.out
        have hwv : Below wr.heap.size wr V := HD3.out.2.1.trans (hK.bel.mono HD3.out.2.1.size)
        obtain ⟨us, hown, happ⟩ := pk_next (HPK.out.later hwv) HPF.out (ob_low HU.out) (HBJ.out.trans (hwv.mono HD3.out.1)) (Nat.le_trans HD3.out.1 hwv.size)
        have HAP : Hid _ := happ
        have hBV : B ≤ V.heap.size := Nat.le_trans HD3.out.1 hwv.size
        clear hwv HU happ hK
        go_wp2_with (at_builtin; refine wpList_append_own _ rfl _ _ 55 rfl B 27 i0 _ 1 24 Tryd.underlying55 hi hz0 hz1 hz2 rfl (by decide) _ (j + 1) _ rfl hown ⟨V.heap.size, 0, none⟩ 1 1 [.slice ua (encFn f).length uc] rfl rfl (new_one _ _ rfl) (by intro u hu; simp at hu; subst hu; rfl) (by unfold maxLen; omega) (by omega) (by simp; omega) ?_)
        intro P' w5 hown5 hgr5 hnil5
        obtain ⟨HF1, HF2⟩ := HAP.out P' w5 hown5 hgr5
        clear hown hown5 hgr5 hnil5 HAP
        go_wp2_with fail
        go_roundw
        case rel => exact ⟨j + 1, by omega, by go_num, HF1, HF2⟩
        case measure => simp [intOf]; omega
      · obtain rfl : n0 = j := by omega
        have hjl' : decide ((n0 : Int) < (n0 : Int)) = false := by simp
        obtain ⟨D1, D2, D3⟩ := HDN.out wr HBJ.out
        have x1 : wr.cell? ⟨w.heap.size, 1, none⟩ = some (.slice a1 c.Pats.length c1) := by rw [cell_of_row wr _ 1 _ _ _ D2]; rfl
        have HD3 : Hid (B ≤ wr.heap.size) := D3
        have HPM : Hid ((pcs c)[n0 + 1]? = some (enc (code c.Pats.length))) := by rw [← HN0.out]; exact pcs_mid c
        have hml : (enc (code c.Pats.length)).length ≤ 6 := encN_le _
        have HN1 : Hid (∀ (V : World) (c0 : Nat), V.heap[c0]? = some (.cells #[.int .i64 (c.Pats.length : Int)] 3 (0, 0)) → Calls Tryd.prog 23 #[.slice none 0 0, .slice (some ⟨c0, 0, none⟩) 1 1] V fun e w' => ∃ v', e = .returned v' ∧ Hid (OB V.heap.size w' v' ([] ++ encs [(c.Pats.length : Int)])) ∧ Kp V.heap.size V w') := fun V c0 h3 => nums_any (.slice none 0 0) [] V.heap.size c0 1 [(c.Pats.length : Int)] V (ob_nil _ _) (Nat.le_refl _) h3 (by simp) (fun N hN => by simp at hN; subst hN; exact ⟨by omega, by omega⟩) (by simp)
        clear D1 D2 D3
        go_wp2_with fail
        refine (HN1.out _ _ (al_new rfl)).mono ?_
        clear HN1 x1
        rintro e V ⟨u, rfl, HU, hK⟩
        have he : ([] : List Int) ++ encs [(c.Pats.length : Int)] = enc (code c.Pats.length) := by simp [encs]
        rw [he] at HU
        obtain ⟨ua, uc, rfl, _⟩ := rd_of_ob HU.out
        have hwv : Below wr.heap.size wr V := ((Below.refl _ wr).alloc (Nat.le_refl _) _).trans (hK.bel.mono (by simp))
        obtain ⟨us, hown, happ⟩ := pk_next (HPK.out.later hwv) HPM.out (ob_low HU.out) (HBJ.out.trans (hwv.mono HD3.out)) (Nat.le_trans HD3.out hwv.size)
        have HAP : Hid _ := happ
        have hBV : B ≤ V.heap.size := Nat.le_trans HD3.out hwv.size
        clear hwv HU happ hK he
        go_wp2_with (at_builtin; refine wpList_append_own _ rfl _ _ 55 rfl B 27 i0 _ 1 24 Tryd.underlying55 hi hz0 hz1 hz2 rfl (by decide) _ (n0 + 1) _ rfl hown ⟨V.heap.size, 0, none⟩ 1 1 [.slice ua (enc (code c.Pats.length)).length uc] rfl rfl (new_one _ _ rfl) (by intro u hu; simp at hu; subst hu; rfl) (by unfold maxLen; omega) (by omega) (by simp; omega) ?_)
        intro P' w5 hown5 hgr5 hnil5
        obtain ⟨HF1, HF2⟩ := HAP.out P' w5 hown5 hgr5
        obtain ⟨D1, D2, D3⟩ := HDN.out w5 HF2.out
        have x1 : w5.cell? ⟨w.heap.size, 1, none⟩ = some (.slice a1 c.Pats.length c1) := by rw [cell_of_row w5 _ 1 _ _ _ D2]; rfl
        clear hown hown5 hgr5 hnil5 HAP D1 D2 D3 HPK HBJ HD3 HPM
        go_wp2_with fail
        obtain ⟨n1, hn1⟩ : ∃ n, c.Pats.length = n := ⟨_, rfl⟩
        have HN2 : Hid (c.Pats.length = n1) := hn1
        rw [hn1]
        go_loopw [3, 41] (fun P i wr => ∃ j : Nat, j ≤ n1 ∧ i = .int .i64 j ∧ Hid (PK c B wr P (n0 + 2 + j)) ∧ Hid (Below B w2 wr)) (fun _ i _ => n1 - (intOf i).toNat)
        case atStart => exact ⟨0, Nat.zero_le _, rfl, HF1.out, HF2.out⟩
        case round =>
          obtain ⟨j, hj, rfl, HPK, HBJ⟩ := hrel
          clear HF1 HF2
          obtain ⟨D1, D2, D3⟩ := HDN.out wr HBJ.out
          by_cases hjl : j < n1
          · obtain ⟨q, hq⟩ : ∃ q, c.Pats[j]? = some q := ⟨_, List.getElem?_eq_getElem (by rw [HN2.out]; exact hjl)⟩
            obtain ⟨a', c', e, hel⟩ := HR1.out.later (PatR.lasts d) D1
            cases e
            obtain ⟨b2, o2, vs, ea, hvl, hcell, hre⟩ := hel j q hq
            subst ea
            obtain ⟨k2, m2, s2, a3, l3, c3, rfl⟩ := PatR.shape d _ _ _ hre
            have f0 : wr.cell? ⟨b2, o2 + j * 4, none⟩ = some (.int .i64 k2) := hcell 0 _ rfl
            have f1 : wr.cell? ⟨b2, o2 + j * 4 + 1, none⟩ = some (.int .i64 m2) := hcell 1 _ rfl
            have f2 : wr.cell? ⟨b2, o2 + j * 4 + 2, none⟩ = some (.string s2) := hcell 2 _ rfl
            have f3 : wr.cell? ⟨b2, o2 + j * 4 + 3, none⟩ = some (.slice a3 l3 c3) := hcell 3 _ rfl
            have hpz : (encPt d q).length ≤ 1073741824 := by
              have h1 := encPt_le d q
              have h2 := szRow_mem (f := szPatD d) hq
              have := HWC.out.2
              omega
            obtain ⟨W5, hW5⟩ : ∃ W, W = wr.alloc (.cells #[.int .i64 k2, .int .i64 m2, .string s2, .slice a3 l3 c3] 51) := ⟨_, rfl⟩
            have hA5 : Below wr.heap.size wr W5 := by rw [hW5]; exact (Below.refl _ _).alloc (Nat.le_refl _) _
            have hC := appendPat_any d W5 (.slice none 0 0) [] _ q W5 (PatR.lasts d _ _ _ _ hre hA5) (HWC.out.1.2.2 q (List.mem_of_getElem? hq)) (Below.refl _ _) (ob_nil _ _) (by simpa using hpz)
            have HPF : Hid ((pcs c)[n0 + 2 + j]? = some (encPt d q)) := by rw [← HN0.out]; exact pcs_pat hq
            rw [hW5] at hC
            have HD3 : Hid (B ≤ wr.heap.size ∧ Below wr.heap.size wr W5 ∧ W5 = _) := ⟨D3, hA5, hW5⟩
            clear D1 D2 D3 hel hvl hcell hre hq hA5 hW5
            go_wp2_with fail
            refine hC.mono ?_
            clear hC f0 f1 f2 f3
            rintro e V ⟨u, rfl, HU, hK⟩
            rw [← HD3.out.2.2] at HU hK
            rw [List.nil_append] at HU
            obtain ⟨ua, uc, rfl, _⟩ := rd_of_ob HU.out
            have hwv : Below wr.heap.size wr V := HD3.out.2.1.trans (hK.bel.mono HD3.out.2.1.size)
            obtain ⟨us, hown, happ⟩ := pk_next (HPK.out.later hwv) HPF.out (ob_low HU.out) (HBJ.out.trans (hwv.mono HD3.out.1)) (Nat.le_trans HD3.out.1 hwv.size)
            have HAP : Hid _ := happ
            have hBV : B ≤ V.heap.size := Nat.le_trans HD3.out.1 hwv.size
            clear hwv HU happ hK
            go_wp2_with (at_builtin; refine wpList_append_own _ rfl _ _ 55 rfl B 27 i0 _ 1 24 Tryd.underlying55 hi hz0 hz1 hz2 rfl (by decide) _ (n0 + 2 + j) _ rfl hown ⟨V.heap.size, 0, none⟩ 1 1 [.slice ua (encPt d q).length uc] rfl rfl (new_one _ _ rfl) (by intro u hu; simp at hu; subst hu; rfl) (by unfold maxLen; omega) (by omega) (by simp; omega) ?_)
            intro P' w5 hown5 hgr5 hnil5
            obtain ⟨HF1, HF2⟩ := HAP.out P' w5 hown5 hgr5
            clear hown hown5 hgr5 hnil5 HAP
            go_wp2_with fail
            go_roundw
            case rel => exact ⟨j + 1, by omega, by go_num, HF1, HF2⟩
            case measure => simp [intOf]; omega
          · obtain rfl : n1 = j := by omega
            have hjl' : decide ((n1 : Int) < (n1 : Int)) = false := by simp
            have HPP : Hid (PcsR wr u3 (pcs c)) := by
              obtain ⟨us, _, h2⟩ := HPK.out
              have hl : (pcs c).take (n0 + 2 + n1) = pcs c := List.take_of_length_le (by have := pcs_len c; have := HN0.out; have := HN2.out; omega)
              rw [hl] at h2
              exact h2.pcs (fun h => by have := pcs_len c; rw [h] at this; simp at this)
            have hC := joined_any u3 (pcs c) wr HPP.out (by have := pcs_len c; have := HN0.out; have := HN2.out; omega) (pcs_le c (by have := HWC.out.2; exact this))
            rw [pcs_flat] at hC
            have HBE : Hid (Below w.heap.size w wr) := D1
            clear D1 D2 D3
            go_wp2_with fail
            refine hC.mono ?_
            clear hC
            rintro e V ⟨rfl, HO, hb⟩
            have HE : Hid (PcP (CanP d c) w (encC c) (.returned (.slice (some ⟨wr.heap.size, 0, none⟩) (encC c).length (encC c).length)) V) := ⟨HBE.out.trans (hb.mono HBE.out.size), .inr ⟨HOK.out, _, rfl, wr.heap.size, _, rfl, own_weak HO.out HBE.out.size⟩⟩
            clear HO hb
            go_wp2_with fail
            go_ret
            exact HE.out

end Go.Proofs.YtfachfimdenapaaDoor
