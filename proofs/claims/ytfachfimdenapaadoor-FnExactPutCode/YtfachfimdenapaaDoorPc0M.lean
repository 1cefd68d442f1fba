/- The bytes of code, as data; rows of bytes that lie in memory. -/
import Derived.Test.YtfachfimdenapaaDoorPutM
import Derived.Test.YtfachfimdenapaaDoorDtCodeM
import Derived.Laws.CopyOwn
import Derived.Test.YtfachfimdenapaaDoorTmM
import Derived.Deep.RegionHeld3
import Derived.Deep.DeepCutAuto
namespace Go.Proofs.YtfachfimdenapaaDoor
open Go.RowKit
set_option linter.unusedVariables false

def encI (x : DIns) : List Int := ((enc (code x.Op) ++ enc (code x.N)) ++ put x.S) ++ enc (code x.To)
def encH (f : DFn) : List Int := ((put f.Name ++ enc (code f.Args)) ++ enc (code f.Slots)) ++ enc (code f.Ins.length)
def encFn (f : DFn) : List Int := encH f ++ f.Ins.flatMap encI
def encQ (k n : Int) (s : ByteArray) (len : Nat) : List Int := ((enc (code k) ++ enc (code n)) ++ put s) ++ enc (code len)
def encPt : (d : Nat) → Tm d → List Int
  | 0, _ => []
  | d + 1, t => encQ t.K t.N t.S t.L.length ++ t.L.flatMap (encPt d)
def encC {d : Nat} (c : DCode d) : List Int := ((enc (code c.Fns.length) ++ c.Fns.flatMap encFn) ++ enc (code c.Pats.length)) ++ c.Pats.flatMap (encPt d)

theorem encN_le (n : Int) : (enc (code n)).length ≤ 6 := enc_len6 (code n) (by have := code_bd n; omega)
theorem put_le (s : ByteArray) : (put s).length ≤ 6 + s.size := by
  have := encN_le s.size
  rw [put, List.length_append, nums_length]
  omega
theorem flat_le {α : Type} {f : α → List Int} {g : α → Nat} (h : ∀ x, (f x).length ≤ 24 + 24 * g x) (xs : List α) : (xs.flatMap f).length ≤ 24 * szRow g xs := by
  unfold szRow
  induction xs with
  | nil => exact Nat.zero_le _
  | cons x xs ih =>
    have := h x
    rw [List.flatMap_cons, List.length_append]
    simp only [List.map_cons, List.sum_cons, List.length_cons]
    omega
theorem encI_le (x : DIns) : (encI x).length ≤ 24 + 24 * szInsD x := by
  have h1 := encN_le x.Op
  have h2 := encN_le x.N
  have h3 := put_le x.S
  have h4 := encN_le x.To
  show _ ≤ 24 + 24 * x.S.size
  unfold encI
  simp only [List.length_append]
  omega
theorem encFn_le (x : DFn) : (encFn x).length ≤ 24 + 24 * szFnD x := by
  have h1 := encN_le x.Args
  have h2 := encN_le x.Slots
  have h3 := put_le x.Name
  have h4 := encN_le x.Ins.length
  have h5 := flat_le encI_le x.Ins
  show _ ≤ 24 + 24 * (x.Name.size + szRow szInsD x.Ins)
  unfold encFn encH
  simp only [List.length_append]
  omega
theorem encPt_le : ∀ (d : Nat) (t : Tm d), (encPt d t).length ≤ 24 + 24 * szPatD d t := by
  intro d
  induction d with
  | zero => intro t; exact t.elim
  | succ d ih =>
    intro t
    have h1 := encN_le t.K
    have h2 := encN_le t.N
    have h3 := put_le t.S
    have h4 := encN_le t.L.length
    have h5 := flat_le ih t.L
    show (encQ t.K t.N t.S t.L.length ++ t.L.flatMap (encPt d)).length ≤ 24 + 24 * (t.S.size + szRow (szPatD d) t.L)
    unfold encQ
    simp only [List.length_append]
    omega
theorem encC_le {d : Nat} (c : DCode d) : (encC c).length ≤ 12 + 24 * szCodeD d c := by
  have h1 := encN_le c.Fns.length
  have h2 := encN_le c.Pats.length
  have h3 := flat_le encFn_le c.Fns
  have h4 := flat_le (encPt_le d) c.Pats
  show _ ≤ 12 + 24 * (szRow szFnD c.Fns + szRow (szPatD d) c.Pats)
  unfold encC
  simp only [List.length_append]
  omega

theorem flat_take {α : Type} {f : α → List Int} {xs : List α} {j : Nat} {x : α} (h : xs[j]? = some x) : (xs.take (j + 1)).flatMap f = (xs.take j).flatMap f ++ f x := by
  have h1 := List.getElem?_eq_some_iff.1 h
  rw [List.take_succ_eq_append_getElem h1.1, h1.2, List.flatMap_append]
  simp
theorem flat_part {α : Type} (f : α → List Int) (xs : List α) (j : Nat) : ((xs.take j).flatMap f).length ≤ (xs.flatMap f).length := by
  conv => rhs; rw [← List.take_append_drop j xs]
  rw [List.flatMap_append, List.length_append]
  omega

/-- A value that is a row of these bytes, in a block of its own. -/
def BR (B : Nat) (w : World) (v : Value) (zs : List Int) : Prop := ∃ g c, v = .slice (some ⟨g, 0, none⟩) zs.length c ∧ w.ownsRow B 5 1 v zs.length (zs.map (Value.int .u8))
theorem rowKeptB {w w' : World} {B e z n : Nat} {v : Value} {xs : List Value} (h : w.ownsRow B e z v n xs) (hb : ∀ g, v.ownBlock = some g → w'.heap[g]? = w.heap[g]?) : w'.ownsRow B e z v n xs := by
  obtain ⟨h1, h2⟩ := h
  refine ⟨h1, ?_⟩
  rcases h2 with h2 | ⟨g, c, cur, e1, e2, e3, e4⟩
  · exact .inl h2
  · exact .inr ⟨g, c, cur, e1, e2, (hb g (by rw [e1]; rfl)).trans e3, e4⟩
theorem own_blkB {w : World} {B e z n : Nat} {v : Value} {xs : List Value} (h : w.ownsRow B e z v n xs) : ∀ g, v.ownBlock = some g → B ≤ g ∧ g < w.heap.size := fun g hg => by
  rcases h.2 with ⟨e, _⟩ | ⟨g', c', cur, e1, e2, e3, _⟩
  · rw [e] at hg; cases hg
  · rw [e1] at hg
    obtain rfl : g' = g := by simpa [Value.ownBlock] using hg
    exact ⟨e2, lt_row e3⟩
theorem BR.later {B : Nat} {w w' : World} {v : Value} {zs : List Int} (h : BR B w v zs) (hb : Below w.heap.size w w') : BR B w' v zs := by
  obtain ⟨g, c, e, ho⟩ := h
  exact ⟨g, c, e, rowKeptB ho fun g hg => hb.block g (own_blkB ho g hg).2⟩

/-- PutNum of the model, behind such a row. -/
theorem specNum_br (B : Nat) (v : Value) (zs : List Int) (N : Int) (w : World) (h : BR B w v zs) (hB : B ≤ w.heap.size) (hm : zs.length ≤ 1073741824) (hn : I64 N) :
    Calls Tryd.prog 17 #[v, .int .i64 N] w fun e w' => ∃ v', e = .returned v' ∧ Hid (BR B w' v' (zs ++ enc (code N))) ∧ Below w.heap.size w w' := by
  obtain ⟨g, c, rfl, ho⟩ := h
  refine (specPutNum_row g 0 zs.length c zs N w rfl hm (own_lt ho) (own_cells ho) hn.1 hn.2 _ rfl _ rfl).mono ?_
  rintro e w' ⟨g', c', rfl, h1, h2, h3⟩
  exact ⟨_, rfl, ⟨g', c', rfl, own_weak h2 hB⟩, h3⟩
/-- PutText of the model, behind such a row. -/
theorem specText_br (B : Nat) (v : Value) (zs : List Int) (s : ByteArray) (w : World) (h : BR B w v zs) (hB : B ≤ w.heap.size) (hm : zs.length ≤ 1073741824) (hs : s.size ≤ 1073741824) :
    Calls Tryd.prog 18 #[v, .string s] w fun e w' => ∃ v', e = .returned v' ∧ Hid (BR B w' v' (zs ++ put s)) ∧ Below w.heap.size w w' := by
  obtain ⟨g, c, rfl, ho⟩ := h
  refine (specPutText_row g 0 zs.length c zs s w rfl hm (own_lt ho) (own_cells ho) hs _ rfl _ rfl).mono ?_
  rintro e w' ⟨g', c', rfl, h1, h2, h3⟩
  exact ⟨_, rfl, ⟨g', c', rfl, own_weak h2 hB⟩, h3⟩

end Go.Proofs.YtfachfimdenapaaDoor

/- What the program's appending of numbers and of a text comes to, and that no other memory turns but rows of bytes. -/
namespace Go.Proofs.YtfachfimdenapaaDoor
open Go.RowKit
set_option linter.unusedVariables false

/-- Not a row of bytes. -/
def N5 (o : Obj) : Prop := ∀ cur f, o ≠ .cells cur 5 f
theorem n5_of {cur : Array Value} {t : TypeId} {f : Nat × Nat} (h : t ≠ 5) : N5 (.cells cur t f) := fun c g e => by
  simp only [Obj.cells.injEq] at e
  exact h e.2.1

/-- What lay below B lies as it lay, and so does whatever is no row of bytes. -/
structure Kp (B : Nat) (w w' : World) : Prop where
  bel : Below B w w'
  far : ∀ (c : Nat) (o : Obj), w.heap[c]? = some o → N5 o → w'.heap[c]? = some o
theorem Kp.refl (B : Nat) (w : World) : Kp B w w := ⟨Below.refl _ _, fun _ _ h _ => h⟩
theorem Kp.trans {B : Nat} {a b c : World} (h : Kp B a b) (k : Kp B b c) : Kp B a c := ⟨h.bel.trans k.bel, fun x o h1 h2 => k.far x o (h.far x o h1 h2) h2⟩
theorem Kp.alloc {B : Nat} {a b : World} (h : Kp B a b) (hB : B ≤ b.heap.size) (o : Obj) : Kp B a (b.alloc o) := ⟨h.bel.alloc hB o, fun x p h1 h2 => by
  have := h.far x p h1 h2
  rw [Below.heap_alloc _ _ _ (lt_row this)]
  exact this⟩
theorem Kp.drew {B : Nat} {a b : World} (h : Kp B a b) : Kp B a b.drew := ⟨h.bel.drew, fun x p h1 h2 => h.far x p h1 h2⟩

theorem not_own {w : World} {B n c : Nat} {v : Value} {xs : List Value} {o : Obj} (h : w.ownsRow B 5 1 v n xs) (hc : w.heap[c]? = some o) (ho : N5 o) : v.ownBlock ≠ some c := fun e => by
  rcases h.2 with ⟨e1, _⟩ | ⟨g1, c1, cur1, e1, _, q1, _⟩
  · rw [e1] at e; cases e
  · rw [e1] at e
    obtain rfl : g1 = c := by simpa [Value.ownBlock] using e
    rw [q1] at hc
    exact ho _ _ (Option.some.inj hc).symm

theorem kp_append {B n : Nat} {w w2 : World} {v : Value} {xs : List Value} {o : Obj} (h : w.ownsRow B 5 1 v n xs) (hB : B ≤ w.heap.size) (hg : (w.alloc o).grownBy w2 v.ownBlock) : Kp B w w2 :=
  ⟨((Below.refl B w).alloc hB o).grown hg (by simp; omega) (fun k hk => (h.lt k hk).1), fun c p h1 h2 => by
    have h3 := lt_row h1
    rw [hg.block c (by simp; omega) (fun e => not_own h h1 h2 e.symm), Below.heap_alloc _ _ _ h3]
    exact h1⟩
theorem kp_grown {B n : Nat} {w w2 : World} {v : Value} {xs : List Value} (h : w.ownsRow B 5 1 v n xs) (hB : B ≤ w.heap.size) (hg : w.grownBy w2 v.ownBlock) : Kp B w w2 :=
  ⟨(Below.refl B w).grown hg hB (fun k hk => (h.lt k hk).1), fun c p h1 h2 => by
    rw [hg.block c (lt_row h1) (fun e => not_own h h1 h2 e.symm)]
    exact h1⟩

/-- A row of bytes that is a call's own. -/
def OB (B : Nat) (w : World) (v : Value) (zs : List Int) : Prop := w.ownsRow B 5 1 v zs.length (zs.map (Value.int .u8))
def encs (Ns : List Int) : List Int := Ns.flatMap fun N => enc (code N)
theorem encs_take {Ns : List Int} {k : Nat} {N : Int} (h : Ns[k]? = some N) : encs (Ns.take (k + 1)) = encs (Ns.take k) ++ enc (code N) := flat_take h
theorem encs_len (Ns : List Int) : (encs Ns).length ≤ 6 * Ns.length := by
  induction Ns with
  | nil => exact Nat.zero_le _
  | cons N Ns ih =>
    have := encN_le N
    unfold encs at ih ⊢
    rw [List.flatMap_cons, List.length_append, List.length_cons]
    omega

set_option maxRecDepth 100000 in
set_option maxHeartbeats 2000000 in
theorem nums_any (v : Value) (xs : List Int) (B c0 cc : Nat) (Ns : List Int) (w : World) (hown : OB B w v xs) (hB : B ≤ w.heap.size) (hrow : w.heap[c0]? = some (.cells (Ns.map (Value.int .i64)).toArray 3 (0, 0))) (hn : xs.length ≤ 1073741824) (hN : ∀ N ∈ Ns, I64 N) (hk : Ns.length ≤ 8) :
    Calls Tryd.prog 23 #[v, .slice (some ⟨c0, 0, none⟩) Ns.length cc] w fun e w' => ∃ v', e = .returned v' ∧ Hid (OB B w' v' (xs ++ encs Ns)) ∧ Kp B w w' := by
  obtain ⟨i0, hi, hz0, hz1, hz2⟩ := info_parts Tryd.info5
  have HN : Hid (∀ N ∈ Ns, I64 N) := hN
  have HROW : Hid (w.heap[c0]? = some (.cells (Ns.map (Value.int .i64)).toArray 3 (0, 0))) := hrow
  have HXL : Hid (xs.length ≤ 1073741824 ∧ Ns.length ≤ 8) := ⟨hn, hk⟩
  obtain ⟨len, hl⟩ : ∃ l, Ns.length = l := ⟨_, rfl⟩
  have HL : Hid (Ns.length = len) := hl
  rw [hl] at hk ⊢
  clear hN hrow hn hl
  go_enter Tryd.func23, Tryd.ntmps23
  go_wp2
  go_loopw [0, 10] (fun a i wr => ∃ k : Nat, k ≤ len ∧ i = .int .i64 k ∧ Hid (OB B wr a (xs ++ encs (Ns.take k))) ∧ Hid (Kp B w wr)) (fun _ i _ => len - (intOf i).toNat)
  case atStart => exact ⟨0, Nat.zero_le _, rfl, (by show OB B w v _; simpa [encs] using hown), Kp.refl _ _⟩
  case round =>
    obtain ⟨k, hk', rfl, HOB, HKP⟩ := hrel
    clear hown
    by_cases hkl : k < len
    · obtain ⟨N, hNk⟩ : ∃ t, Ns[k]? = some t := ⟨_, List.getElem?_eq_getElem (by have := HL.out; omega)⟩
      have hr := HKP.out.far c0 _ HROW.out (n5_of (by decide))
      have f0 : wr.cell? ⟨c0, k, none⟩ = some (.int .i64 N) := by
        rw [cell_of_row wr _ _ _ _ _ hr]
        simp [hNk]
      obtain ⟨h0, h1⟩ := HN.out N (List.mem_of_getElem? hNk)
      have hcb := code_bd N
      have hnc := numCode_any N wr h0 h1
      have hen := encN_le N
      have htk := encs_take hNk
      obtain ⟨C, hC⟩ : ∃ C, C = code N := ⟨_, rfl⟩
      rw [← hC] at hcb hnc hen htk
      obtain ⟨ys, hys⟩ : ∃ ys, xs ++ encs (Ns.take k) = ys := ⟨_, rfl⟩
      have HNX : Hid (xs ++ encs (Ns.take (k + 1)) = ys ++ enc C) := by show _ = _; rw [htk, ← hys, List.append_assoc]
      rw [hys] at HOB
      have hyl : ys.length ≤ 1073741824 + 48 := by
        have h2 := encs_len (Ns.take k)
        have h3 := HXL.out
        rw [← hys, List.length_append]
        rw [List.length_take] at h2
        omega
      have hkl' : (k : Int) < (len : Int) := by omega
      have hBr : B ≤ wr.heap.size := Nat.le_trans hB HKP.out.bel.size
      clear hr hNk h0 h1 htk hC hys
      go_wp2_with fail
      refine hnc.mono ?_
      clear hnc f0
      rintro e w' ⟨rfl, rfl⟩
      go_wp2_with fail
      go_loopw [0, 7] (fun a c wq => ∃ (m : Int) (cur : List Int), 0 ≤ m ∧ m ≤ 2000000000000 ∧ c = .int .i64 m ∧ Hid (OB B wq a cur) ∧ Hid (Kp B w' wq) ∧ Hid (cur ++ enc m = ys ++ enc C)) (fun _ c _ => (intOf c).toNat)
      case atStart => exact ⟨C, ys, hcb.1, hcb.2, rfl, HOB.out, Kp.refl _ _, rfl⟩
      case round =>
        obtain ⟨m, cur, hm0, hm1, rfl, HO1, HK1, HE⟩ := hrel
        rename World => wq
        have hown1 : wq.ownsRow B 5 1 _ cur.length (cur.map (Value.int .u8)) := HO1.out
        have hcl : cur.length ≤ 1073741824 + 60 := by
          have e := congrArg List.length HE.out
          have := enc_len_pos m
          simp only [List.length_append] at e; omega
        have hsz : B ≤ wq.heap.size := Nat.le_trans hBr HK1.out.bel.size
        by_cases hgt : 127 < m
        · go_wp2_with (at_builtin; refine wpList_append_own _ rfl (.tmp 18) (.tmp 23) 27 rfl B 5 i0 (.int .u8 0) 1 1 Tryd.underlying27 hi hz0 hz1 hz2 rfl (by decide) _ _ _ rfl (hown1.alloc _) ⟨wq.heap.size, 0, none⟩ 1 1 [.int .u8 (m % 128 + 128)] rfl rfl ?c1 ?c2 ?c3 ?c4 ?c5 ?_)
          case c1 => exact one_new _ _ _
          case c2 => intro u hu; simp at hu; subst hu; rfl
          case c3 => unfold maxLen; omega
          case c4 => omega
          case c5 => simp; omega
          intro v' w2 hown2 hgrow2 _
          rw [snoc_map] at hown2
          have HK2 : Hid (Kp B w' w2) := HK1.out.trans (kp_append hown1 hsz hgrow2)
          have HO2 : Hid (OB B w2 v' (cur ++ [m % 128 + 128])) := by show w2.ownsRow _ _ _ _ _ _; simpa using hown2
          have hE2 : Hid ((cur ++ [m % 128 + 128]) ++ enc (m / 128) = ys ++ enc C) := by have := HE.out; rw [enc_go m hgt] at this; show _ = _; rw [← this]; simp
          clear hown1 hgrow2 HE hown2 HO1 HK1
          go_wp2
          go_roundw
          case rel => exact ⟨m / 128, cur ++ [m % 128 + 128], by omega, by omega, by go_num, HO2, HK2, hE2⟩
          case measure => simp [intOf]; omega
        · have hle : m ≤ 127 := by omega
          go_wp2_with (at_builtin; refine wpList_append_own _ rfl (.tmp 27) (.tmp 30) 27 rfl B 5 i0 (.int .u8 0) 1 1 Tryd.underlying27 hi hz0 hz1 hz2 rfl (by decide) _ _ _ rfl (hown1.alloc _) ⟨wq.heap.size, 0, none⟩ 1 1 [.int .u8 m] rfl rfl ?d1 ?d2 ?d3 ?d4 ?d5 ?_)
          case d2 => first | rfl | (intro u hu; simp at hu; subst hu; rfl)
          case d3 => unfold maxLen; omega
          case d4 => omega
          case d5 => first | omega | (simp; omega)
          intro v' w2 hown2 hgrow2 _
          rw [snoc_map] at hown2
          have HK2 : Hid (Kp B w w2) := HKP.out.trans (HK1.out.trans (kp_append hown1 hsz hgrow2))
          have hE2 : Hid (cur ++ [m] = ys ++ enc C) := by have := HE.out; rw [enc_end m hle] at this; exact this
          have HO2 : Hid (OB B w2 v' (xs ++ encs (Ns.take (k + 1)))) := by rw [HNX.out, ← hE2.out]; show w2.ownsRow _ _ _ _ _ _; simpa using hown2
          clear hown1 hgrow2 HE hE2 hown2 HO1 HK1
          go_wp2
          go_roundw
          case rel => exact ⟨k + 1, by omega, by go_num, HO2, HK2⟩
          case measure => simp [intOf]; omega
    · obtain rfl : k = len := by omega
      have HF : Hid (OB B wr u0 (xs ++ encs Ns)) := by
        have := HOB.out
        rw [List.take_of_length_le (by have := HL.out; omega)] at this
        exact this
      have hkl' : decide ((k : Int) < (k : Int)) = false := by simp
      clear HOB
      go_wp2_with fail
      go_ret
      exact ⟨_, rfl, HF, HKP.out⟩

set_option maxRecDepth 100000 in
set_option maxHeartbeats 2000000 in
theorem text_any (v : Value) (xs : List Int) (B c0 cc : Nat) (s : ByteArray) (w : World) (hown : OB B w v xs) (hB : B ≤ w.heap.size) (hrow : w.heap[c0]? = some (.cells #[.string s] 9 (0, 0))) (hn : xs.length ≤ 1073741824) (hs : s.size ≤ 1073741824) :
    Calls Tryd.prog 41 #[v, .slice (some ⟨c0, 0, none⟩) 1 cc] w fun e w' => ∃ v', e = .returned v' ∧ Hid (OB B w' v' (xs ++ put s)) ∧ Kp B w w' := by
  obtain ⟨i0, hi, hz0, hz1, hz2⟩ := info_parts Tryd.info5
  have hl6 := encN_le s.size
  have hcell : w.cell? ⟨c0, 0, none⟩ = some (.string s) := by rw [cell_of_row w _ 0 _ _ _ hrow]; rfl
  have HOW : Hid (OB B w v xs) := hown
  clear hrow hown
  go_enter Tryd.func41, Tryd.ntmps41
  go_wp2
  go_loopw [0, 9] (fun a i wr => Hid ((i = .int .i64 0 ∧ v = a ∧ w = wr) ∨ (i = .int .i64 1 ∧ OB B wr a (xs ++ put s) ∧ Kp B w wr))) (fun _ i _ => 1 - (intOf i).toNat)
  case atStart => exact .inl ⟨rfl, rfl, rfl⟩
  case round =>
    rcases hrel.out with ⟨rfl, rfl, rfl⟩ | ⟨rfl, hres, hkp⟩
    · clear hrel
      obtain ⟨V, hV⟩ : ∃ V, V = w.alloc (.cells #[.int .i64 (s.size : Int)] 3) := ⟨_, rfl⟩
      have hk1 : Kp B w V := by rw [hV]; exact (Kp.refl B w).alloc hB _
      have hoV : OB B V v xs := by rw [hV]; exact World.ownsRow.alloc HOW.out _
      have hC := nums_any v xs B w.heap.size 1 [(s.size : Int)] V hoV (Nat.le_trans hB hk1.bel.size) (by rw [hV]; exact heap_alloc_new w _) hn (fun N hN => by simp at hN; subst hN; exact ⟨by omega, by omega⟩) (by simp)
      rw [hV] at hC
      have HV : Hid (V = _) := hV
      have HK1 : Hid (Kp B w V) := hk1
      clear hV hk1 hoV
      go_wp2_with fail
      refine hC.mono ?_
      clear hC
      rintro e w1 ⟨v1, rfl, HO1, hk2⟩
      rw [← HV.out] at hk2
      have HK2 : Hid (Kp B w w1) := HK1.out.trans hk2
      obtain ⟨ys, hys⟩ : ∃ ys, xs ++ encs [(s.size : Int)] = ys := ⟨_, rfl⟩
      have he1 : encs [(s.size : Int)] = enc (code s.size) := by simp [encs]
      have HY : Hid (xs ++ put s = ys ++ nums s) := by rw [← hys, he1]; show _ = _; rw [put, List.append_assoc]
      have hyl : ys.length ≤ 1073741824 + 6 := by rw [← hys, he1, List.length_append]; omega
      rw [hys] at HO1
      have hown1 : w1.ownsRow B 5 1 v1 ys.length (ys.map (Value.int .u8)) := HO1.out
      have hsz : B ≤ w1.heap.size := Nat.le_trans hB HK2.out.bel.size
      clear hys hk2 HK1 HV hcell he1
      go_wp2_with (at_builtin; refine Lib.wpList_append_own_string _ rfl (.tmp 18) (.tmp 19) 27 9 rfl B 5 i0 Tryd.underlying27 Tryd.underlying9 hi hz0 hz1 hz2 _ _ _ rfl hown1 s rfl (by unfold maxLen; omega) (by omega) (by omega) ?_)
      intro v' w2 hown2 hgrow2 _
      have HK3 : Hid (Kp B w w2) := HK2.out.trans (kp_grown hown1 hsz hgrow2)
      have HO2 : Hid (OB B w2 v' (xs ++ put s)) := by
        rw [HY.out]
        show w2.ownsRow _ _ _ _ _ _
        rw [List.length_append, List.map_append, ← nums_cells, nums_length]; exact hown2
      clear hown1 hgrow2 HY hown2 HO1 HK2
      go_wp2
      go_roundw
      case rel => exact .inr ⟨by go_num, HO2.out, HK3.out⟩
      case measure => simp [intOf]
    · have HF : Hid (OB B wr u0 (xs ++ put s) ∧ Kp B w wr) := ⟨hres, hkp⟩
      clear hrel hres hkp
      go_wp2
      go_ret
      exact ⟨_, rfl, HF.out.1, HF.out.2⟩

end Go.Proofs.YtfachfimdenapaaDoor

/- The program's joinedBytes: pieces of bytes one behind the other in new memory. -/
namespace Go.Proofs.YtfachfimdenapaaDoor
open Go.RowKit
set_option linter.unusedVariables false

/-- A list of pieces, as it lies in memory. -/
def PcsR (w : World) (vp : Value) (ps : List (List Int)) : Prop := ∃ g c, vp = .slice (some ⟨g, 0, none⟩) ps.length c ∧ ∀ (i : Nat) (p : List Int), ps[i]? = some p → ∃ a c', w.cell? ⟨g, i, none⟩ = some (.slice a p.length c') ∧ Rd w a p.length p

def upTo (ps : List (List Int)) (j : Nat) : List Int := (ps.take j).flatten
theorem upTo_succ {ps : List (List Int)} {j : Nat} {p : List Int} (h : ps[j]? = some p) : upTo ps (j + 1) = upTo ps j ++ p := by
  have h1 := List.getElem?_eq_some_iff.1 h
  unfold upTo
  rw [List.take_succ_eq_append_getElem h1.1, h1.2, List.flatten_append]
  simp
theorem upTo_le (ps : List (List Int)) (j : Nat) : (upTo ps j).length ≤ ps.flatten.length := by
  unfold upTo
  conv => rhs; rw [← List.take_append_drop j ps]
  rw [List.flatten_append, List.length_append]
  omega
theorem upTo_all {ps : List (List Int)} {j : Nat} (h : ps.length ≤ j) : upTo ps j = ps.flatten := by unfold upTo; rw [List.take_of_length_le h]

/-- A row that is filled so far. -/
def fillU (A : List Int) (n : Nat) : List Value := A.map (Value.int .u8) ++ List.replicate (n - A.length) (Value.int .u8 0)
theorem fillU_len {A : List Int} {n : Nat} (h : A.length ≤ n) : (fillU A n).length = n := by unfold fillU; simp; omega
theorem fillU_splice {A C : List Int} {n : Nat} (h : A.length + C.length ≤ n) : splice (fillU A n) A.length (C.map (Value.int .u8)) = fillU (A ++ C) n := by
  unfold splice fillU
  rw [List.take_append_of_le_length (by simp), List.take_of_length_le (by simp), List.drop_append, List.drop_of_length_le (by simp)]
  simp
  omega
theorem fillU_full {A : List Int} {n : Nat} (h : A.length = n) : fillU A n = A.map (Value.int .u8) := by unfold fillU; simp [h]

set_option maxRecDepth 100000 in
set_option maxHeartbeats 4000000 in
theorem joined_any (vp : Value) (ps : List (List Int)) (w : World) (hr : PcsR w vp ps) (hn : ps.length ≤ 16777216) (ht : ps.flatten.length ≤ 1073741824) :
    Calls Tryd.prog 26 #[vp] w fun e w' => e = .returned (.slice (some ⟨w.heap.size, 0, none⟩) ps.flatten.length ps.flatten.length) ∧ Hid (w'.ownsRow w.heap.size 5 1 (.slice (some ⟨w.heap.size, 0, none⟩) ps.flatten.length ps.flatten.length) ps.flatten.length (ps.flatten.map (Value.int .u8))) ∧ Below w.heap.size w w' := by
  obtain ⟨i0, hi, hz0, hz1, hz2⟩ := info_parts Tryd.info5
  obtain ⟨gp, cp, rfl, hel⟩ := hr
  have HE : Hid (∀ (i : Nat) (p : List Int), ps[i]? = some p → ∃ a c', w.cell? ⟨gp, i, none⟩ = some (.slice a p.length c') ∧ Rd w a p.length p) := hel
  obtain ⟨len, hl⟩ : ∃ l, ps.length = l := ⟨_, rfl⟩
  obtain ⟨tot, htt⟩ : ∃ l, ps.flatten.length = l := ⟨_, rfl⟩
  have HL : Hid (ps.length = len ∧ ps.flatten.length = tot) := ⟨hl, htt⟩
  have HUP : Hid (∀ j, (upTo ps j).length ≤ tot) := fun j => by have := upTo_le ps j; omega
  rw [hl] at hn ⊢
  rw [htt] at ht ⊢
  clear hel hl htt
  go_enter Tryd.func26, Tryd.ntmps26
  go_wp2_with fail
  go_loopw [3, 13] (fun s i wr => ∃ j : Nat, j ≤ len ∧ i = .int .i64 j ∧ s = .int .i64 ((upTo ps j).length : Nat) ∧ Hid (wr = w)) (fun _ i _ => len - (intOf i).toNat)
  case atStart => exact ⟨0, Nat.zero_le _, rfl, by simp [upTo], rfl⟩
  case round =>
    obtain ⟨j, hj, rfl, rfl, HW⟩ := hrel
    rw [HW.out]
    clear HW
    by_cases hjl : j < len
    · obtain ⟨p, hp⟩ : ∃ u, ps[j]? = some u := ⟨_, List.getElem?_eq_getElem (by have := HL.out.1; omega)⟩
      obtain ⟨a, c', hc, _⟩ := HE.out j p hp
      have hu := upTo_succ hp
      have hb := HUP.out (j + 1)
      rw [hu, List.length_append] at hb
      obtain ⟨n, hnn⟩ : ∃ n, p.length = n := ⟨_, rfl⟩
      obtain ⟨m, hm⟩ : ∃ n, (upTo ps j).length = n := ⟨_, rfl⟩
      have HNX : Hid ((upTo ps (j + 1)).length = m + n) := by show _ = _; rw [hu, List.length_append, hm, hnn]
      rw [hnn] at hc hb
      rw [hm] at hb ⊢
      have hjl' : (j : Int) < (len : Int) := by omega
      clear hp hu hnn hm
      go_wp2_with fail
      go_roundw
      case rel => exact ⟨j + 1, by omega, by go_num, (by rw [HNX.out]; first | rfl | go_num | (congr 1; omega)), (by first | rfl | exact trivial)⟩
      case measure => simp [intOf]; omega
    · obtain rfl : len = j := by omega
      have hut : (upTo ps len).length = tot := by rw [upTo_all (by have := HL.out.1; omega)]; exact HL.out.2
      rw [hut]
      have hjl' : decide ((len : Int) < (len : Int)) = false := by simp
      clear hut
      go_wp2_with (at_make; refine wpList_make_full _ rfl _ _ 27 rfl w.heap.size 5 i0 (.int .u8 0) 1 Tryd.underlying27 hi hz0 hz1 _ _ _ _ tot rfl rfl rfl rfl ?c1 ?c2 ?c3 ?_)
      case c1 => rw [hz2]; omega
      case c2 => unfold maxLen; omega
      case c3 => exact Nat.le_refl _
      intro w1 hown hgrow
      rw [toList_madeCells_one] at hown
      have hbel : Below w.heap.size w w1 := (Below.refl _ _).grown hgrow (Nat.le_refl _) (fun _ h => by cases h)
      have hrow : w1.heap[w.heap.size]? = some (.cells (fillU (upTo ps 0) tot).toArray 5 (0, 0)) := by
        rcases hown.2 with ⟨h', _⟩ | ⟨g', cap', cur, h', _, hg, _, _, hs, htk⟩
        · simp at h'
        · simp only [Value.slice.injEq, Option.some.injEq, Addr.mk.injEq, and_true, true_and] at h'
          obtain ⟨rfl, rfl⟩ := h'
          rw [List.take_of_length_le (by simp; omega)] at htk
          have hf0 : fillU (upTo ps 0) tot = List.replicate tot (Value.int .u8 0) := by simp [fillU, upTo]
          rw [hf0, hg, ← htk]
      have HB1 : Hid (Below w.heap.size w w1) := hbel
      have HR1 : Hid (w1.heap[w.heap.size]? = some (.cells (fillU (upTo ps 0) tot).toArray 5 (0, 0))) := hrow
      clear hown hgrow hbel hrow
      go_wp2_with fail
      go_loopw [7, 26] (fun s i wr => ∃ j : Nat, j ≤ len ∧ i = .int .i64 j ∧ s = .int .i64 ((upTo ps j).length : Nat) ∧ Hid (Below w.heap.size w wr) ∧ Hid (wr.heap[w.heap.size]? = some (.cells (fillU (upTo ps j) tot).toArray 5 (0, 0)))) (fun _ i _ => len - (intOf i).toNat)
      case atStart => exact ⟨0, Nat.zero_le _, rfl, by simp [upTo], HB1, HR1⟩
      case round =>
        clear HB1 HR1
        obtain ⟨k, hk, rfl, rfl, HBk, HRk⟩ := hrel
        by_cases hkl : k < len
        · obtain ⟨p, hp⟩ : ∃ u, ps[k]? = some u := ⟨_, List.getElem?_eq_getElem (by have := HL.out.1; omega)⟩
          obtain ⟨a, c', hc, hrd⟩ := HE.out k p hp
          have hc := cell_later HBk.out hc
          have hrd := hrd.later HBk.out
          have hu := upTo_succ hp
          have hb := HUP.out (k + 1)
          rw [hu, List.length_append] at hb
          obtain ⟨n, hnn⟩ : ∃ n, p.length = n := ⟨_, rfl⟩
          obtain ⟨A, hA⟩ : ∃ A, upTo ps k = A := ⟨_, rfl⟩
          obtain ⟨m, hm⟩ : ∃ n, A.length = n := ⟨_, rfl⟩
          have HU : Hid (upTo ps (k + 1) = A ++ p) := by show _ = _; rw [hu, hA]
          rw [hA] at hb HRk
          rw [hA]
          have hrow := HRk.out
          rw [hnn] at hc hb hrd
          rw [hm] at hb ⊢
          have hkl' : (k : Int) < (len : Int) := by omega
          have HM : Hid (p.length = n ∧ A.length = m ∧ Below w.heap.size w wr) := ⟨hnn, hm, HBk.out⟩
          clear hp hu HRk HBk hnn hA hm HUP
          have HC1 : Hid ((p.map (Value.int .u8)).length = n) := by show _ = _; rw [List.length_map]; exact HM.out.1
          have HC2 : Hid (∀ (W : World), W.heap = wr.heap → 0 < n → ∃ ad, a = some ad ∧ ∀ j v, (p.map (Value.int .u8))[j]? = some v → W.cell? (ad.add j) = some v) := fun W hW hp => by
            have hrd' : Rd W a n p := ⟨hrd.1, fun i hi => by obtain ⟨b, off, hx, hc⟩ := hrd.2 i hi; exact ⟨b, off, hx, by rw [← hc]; unfold World.cell?; rw [hW]⟩⟩
            obtain ⟨b, off, hx, _⟩ := hrd'.2 0 (by omega)
            refine ⟨_, hx, fun j u hj => ?_⟩
            have hj' : j < n := by
              have := (List.getElem?_eq_some_iff.1 hj).1
              have := HC1.out
              omega
            obtain ⟨b', off', hx', hc'⟩ := hrd'.2 j hj'
            rw [hx] at hx'
            cases hx'
            rw [Addr.add_lit, hc', ← hj]
            simp [show j < p.length by have := HM.out.1; omega]
          have HC3 : Hid ((fillU A tot).length = tot) := fillU_len (by have := HM.out.2.1; omega)
          have HC4 : Hid (∀ v ∈ p.map (Value.int .u8), v.oneCell' = true) := ints_oneCell _ _
          have HCS : Hid (splice (fillU A tot) m (p.map (Value.int .u8)) = fillU (A ++ p) tot) := by
            show _ = _
            rw [← HM.out.2.1]
            exact fillU_splice (by have := HM.out.1; have := HM.out.2.1; omega)
          have HC0 : Hid (n = 0 → splice (fillU A tot) 0 (p.map (Value.int .u8)) = fillU (A ++ p) tot) := fun h => by
            have hp0 : p = [] := List.eq_nil_of_length_eq_zero (by rw [HM.out.1, h])
            rw [hp0]
            simp [splice]
          obtain ⟨cs, hcs⟩ : ∃ cs, p.map (Value.int .u8) = cs := ⟨_, rfl⟩
          rw [hcs] at HC1 HC2 HC4 HCS HC0
          clear hcs hrd
          rcases Nat.eq_zero_or_pos n with h0 | h0
          · subst h0
            have hz : ((m : Int) + (0 : Nat) = m) := by simp
            go_wp2_with (refine wpList_copy_splice rfl (.tmp 38) (.tmp 39) 27 27 rfl 5 Tryd.underlying27 u8_size (some ⟨w.heap.size, 0, none⟩) a 0 0 0 c' rfl rfl w.heap.size 0 (fillU A tot) 5 hrow cs (by have := HC1.out; simp [this]) (fun h => absurd h (by have := HC1.out; omega)) (by have := HC1.out; have := HC3.out; omega) HC4.out w.heap.size w HM.out.2.2 (Nat.le_refl _) ?_)
            intro w3 hr3 hb3
            have HR3 : Hid (w3.heap[w.heap.size]? = some (.cells (fillU (upTo ps (k + 1)) tot).toArray 5 (0, 0))) := by
              have := hr3.out
              rw [HC0.out (by first | trivial | rfl)] at this
              rw [HU.out]
              exact this
            have HB3 : Hid (Below w.heap.size w w3) := hb3
            have HLN : Hid ((upTo ps (k + 1)).length = m) := by show _ = _; rw [HU.out, List.length_append, HM.out.1, HM.out.2.1]; rfl
            clear hr3 hb3 HCS HC0
            go_wp2_with fail
            all_goals exact ⟨⟨k + 1, by omega, by go_num, by first | (rw [HLN.out]; done) | (rw [HLN.out]; go_num), HB3, HR3⟩, by simp [intOf]; omega⟩
          · have hz : ¬ ((m : Int) + n = m) := by omega
            have hz2 : ¬ (m + n = m) := by omega
            go_wp2_with (refine wpList_copy_splice rfl (.tmp 38) (.tmp 39) 27 27 rfl 5 Tryd.underlying27 u8_size (some ⟨w.heap.size, m, none⟩) a (m + n - m) (m + n - m) n c' rfl rfl w.heap.size m (fillU A tot) 5 hrow cs (by have := HC1.out; simp [this]) (fun _ => ⟨rfl, HC2.out _ rfl h0⟩) (by have := HC1.out; have := HC3.out; omega) HC4.out w.heap.size w HM.out.2.2 (Nat.le_refl _) ?_)
            intro w3 hr3 hb3
            have HR3 : Hid (w3.heap[w.heap.size]? = some (.cells (fillU (upTo ps (k + 1)) tot).toArray 5 (0, 0))) := by
              have := hr3.out
              rw [HCS.out] at this
              rw [HU.out]
              exact this
            have HB3 : Hid (Below w.heap.size w w3) := hb3
            have HLN : Hid ((upTo ps (k + 1)).length = m + n) := by show _ = _; rw [HU.out, List.length_append, HM.out.1, HM.out.2.1]
            clear hr3 hb3 HCS HC0
            go_wp2_with fail
            all_goals exact ⟨⟨k + 1, by omega, by go_num, by first | (rw [HLN.out]; done) | (rw [HLN.out]; go_num), HB3, HR3⟩, by simp [intOf]; omega⟩
        · obtain rfl : len = k := by omega
          have hut : upTo ps len = ps.flatten := upTo_all (by have := HL.out.1; omega)
          have hkl' : decide ((len : Int) < (len : Int)) = false := by simp
          have HF : Hid (wr.ownsRow w.heap.size 5 1 (.slice (some ⟨w.heap.size, 0, none⟩) tot tot) tot (ps.flatten.map (Value.int .u8))) := by
            have := HRk.out
            rw [hut, fillU_full HL.out.2] at this
            exact own_of_row this (by rw [List.length_map]; exact HL.out.2) (Nat.le_refl _) (by unfold maxLen; omega)
          clear hut HRk
          go_wp2_with fail
          go_ret
          exact ⟨rfl, HF, HBk.out⟩

end Go.Proofs.YtfachfimdenapaaDoor

/- The bytes of a pattern: the model's. -/
namespace Go.Proofs.YtfachfimdenapaaDoor
open Go.RowKit
set_option linter.unusedVariables false

def SpPC (d : Nat) : Prop := ∀ (B : Nat) (v : Value) (zs : List Int) (vs : List Value) (t : Tm d) (w : World), BR B w v zs → B ≤ w.heap.size → PatR d w vs t → WfPat d t → zs.length + (encPt d t).length ≤ 1073741824 →
  Calls Tryd.prog 19 #[v, .agg vs.toArray] w fun e w' => ∃ v', e = .returned v' ∧ Hid (BR B w' v' (zs ++ encPt d t)) ∧ Below w.heap.size w w'

set_option maxRecDepth 100000 in
set_option maxHeartbeats 4000000 in
theorem specPutPat_of (d : Nat) (H : SpPC d) : SpPC (d + 1) := by
  rintro B v zs vs t w hbr hBw ⟨v3, rfl, h3⟩ ⟨wk, wn, ws, wl⟩ hlen
  obtain ⟨a3, c3, rfl, hel0⟩ := h3
  have hlen' : zs.length + (encQ t.K t.N t.S t.L.length ++ t.L.flatMap (encPt d)).length ≤ 1073741824 := hlen
  rw [List.length_append] at hlen'
  unfold encQ at hlen'
  simp only [List.length_append] at hlen'
  obtain ⟨z1, hz1⟩ : ∃ z, zs ++ enc (code t.K) = z := ⟨_, rfl⟩
  obtain ⟨z2, hz2⟩ : ∃ z, z1 ++ enc (code t.N) = z := ⟨_, rfl⟩
  obtain ⟨z3, hz3⟩ : ∃ z, z2 ++ put t.S = z := ⟨_, rfl⟩
  obtain ⟨z4, hz4⟩ : ∃ z, z3 ++ enc (code t.L.length) = z := ⟨_, rfl⟩
  have l1 : z1.length = zs.length + (enc (code t.K)).length := by rw [← hz1, List.length_append]
  have l2 : z2.length = z1.length + (enc (code t.N)).length := by rw [← hz2, List.length_append]
  have l3 : z3.length = z2.length + (put t.S).length := by rw [← hz3, List.length_append]
  have l4 : z4.length = z3.length + (enc (code t.L.length)).length := by rw [← hz4, List.length_append]
  have hss : t.S.size ≤ 1073741824 := by rw [put, List.length_append, nums_length] at hlen'; omega
  have HZ4 : Hid (zs ++ encPt (d + 1) t = z4 ++ t.L.flatMap (encPt d)) := by
    show zs ++ (encQ t.K t.N t.S t.L.length ++ t.L.flatMap (encPt d)) = _
    rw [← hz4, ← hz3, ← hz2, ← hz1]; unfold encQ; simp only [List.append_assoc]
  have hll : t.L.length ≤ 9223372036854775807 := wl.1
  have H1 : Hid (∀ V, BR B V v zs → B ≤ V.heap.size → _) := fun V hV hb => specNum_br B v zs t.K V hV hb (by omega) wk
  have H2 : Hid (∀ V v1, BR B V v1 z1 → B ≤ V.heap.size → _) := fun V v1 hV hb => specNum_br B v1 z1 t.N V hV hb (by omega) wn
  have H3 : Hid (∀ V v1, BR B V v1 z2 → B ≤ V.heap.size → _) := fun V v1 hV hb => specText_br B v1 z2 t.S V hV hb (by omega) hss
  have H4 : Hid (∀ V v1, BR B V v1 z3 → B ≤ V.heap.size → _) := fun V v1 hV hb => specNum_br B v1 z3 t.L.length V hV hb (by omega) ⟨by omega, by omega⟩
  rw [hz1] at H1
  rw [hz2] at H2
  rw [hz3] at H3
  rw [hz4] at H4
  have HLB : Hid (z4.length + (t.L.flatMap (encPt d)).length ≤ 1073741824) := by show _ ≤ _; omega
  have HE : Hid (∀ (i : Nat) (e : Tm d), t.L[i]? = some e → ∃ b o vs, a3 = some ⟨b, o, none⟩ ∧ vs.length = 4 ∧ (∀ (j : Nat) (u : Value), vs[j]? = some u → w.cell? ⟨b, o + i * 4 + j, none⟩ = some u) ∧ PatR d w vs e) := hel0
  have HWL : Hid (∀ x ∈ t.L, WfPat d x) := wl.2
  rw [HZ4.out]
  obtain ⟨LS, hLS⟩ : ∃ l, t.L = l := ⟨_, rfl⟩
  obtain ⟨K, hK⟩ : ∃ l, t.K = l := ⟨_, rfl⟩
  obtain ⟨N, hN⟩ : ∃ l, t.N = l := ⟨_, rfl⟩
  obtain ⟨S, hS⟩ : ∃ l, t.S = l := ⟨_, rfl⟩
  rw [hLS] at HLB HE HWL H4 hll ⊢
  rw [hK] at H1 ⊢
  rw [hN] at H2 ⊢
  rw [hS] at H3 ⊢
  have HBR : Hid (BR B w v zs) := hbr
  have HI : Hid (SpPC d) := H
  clear hz1 hz2 hz3 hz4 l1 l2 l3 l4 hss hlen hlen' HZ4 hLS hK hN hS wk wn ws wl hel0 hbr H
  obtain ⟨len, hl⟩ : ∃ l, LS.length = l := ⟨_, rfl⟩
  have HL : Hid (LS.length = len) := hl
  rw [hl] at hll H4 ⊢
  clear hl
  obtain ⟨W, hW⟩ : ∃ W, W = w.alloc (.cells #[.int .i64 K, .int .i64 N, .string S, .slice a3 len c3] 51) := ⟨_, rfl⟩
  have hA : Below w.heap.size w W := by rw [hW]; exact (Below.refl _ _).alloc (Nat.le_refl _) _
  have HB1 : Hid (W.heap[w.heap.size]? = some (.cells #[.int .i64 K, .int .i64 N, .string S, .slice a3 len c3] 51 (0, 0))) := by rw [hW]; exact heap_alloc_new w _
  have HBW : Hid (Below w.heap.size w W) := hA
  have HWS : Hid (W = _) := hW
  have HSK : Hid (∀ V : World, Below W.heap.size W V → V.cell? ⟨w.heap.size, 0, none⟩ = some (.int .i64 K) ∧ V.cell? ⟨w.heap.size, 1, none⟩ = some (.int .i64 N) ∧ V.cell? ⟨w.heap.size, 2, none⟩ = some (.string S) ∧ V.cell? ⟨w.heap.size, 3, none⟩ = some (.slice a3 len c3)) := fun V hV => by
    have hr := (hV.block _ (lt_row HB1.out)).trans HB1.out
    exact ⟨by rw [cell_of_row V _ 0 _ _ _ hr]; rfl, by rw [cell_of_row V _ 1 _ _ _ hr]; rfl, by rw [cell_of_row V _ 2 _ _ _ hr]; rfl, by rw [cell_of_row V _ 3 _ _ _ hr]; rfl⟩
  have hb0 : BR B W.drew v zs := HBR.out.later hA.drew
  have HB0 : Hid (BR B W.drew v zs) := hb0
  have HBZ : Hid (∀ V : World, Below W.heap.size W V → B ≤ V.heap.size) := fun V hV => Nat.le_trans hBw (Nat.le_trans hA.size hV.size)
  have hY : Below W.heap.size W W.drew := (Below.refl _ _).drew
  obtain ⟨x0, x1, x2, x3⟩ := HSK.out W (Below.refl _ _)
  clear hW hA hb0
  go_enter Tryd.func19, Tryd.ntmps19
  go_wp2_with fail
  rw [← HWS.out]
  clear HWS
  go_cut [0] (fun v4 wx => Hid (BR B wx v4 z4) ∧ Hid (Below W.heap.size W wx))
  case first =>
    go_region_held3 (fun V => V.cell? ⟨w.heap.size, 0, none⟩ = some (.int .i64 K) ∧ V.cell? ⟨w.heap.size, 1, none⟩ = some (.int .i64 N) ∧ V.cell? ⟨w.heap.size, 2, none⟩ = some (.string S) ∧ V.cell? ⟨w.heap.size, 3, none⟩ = some (.slice a3 len c3)) (first | (with_reducible exact HSK.out _ hY) | (with_reducible exact HSK.out _ (Below.refl _ _))) (first
      | (go_at_call 17; (with_reducible refine (H1.out _ HB0.out (HBZ.out _ hY)).mono ?_); rintro e V1 ⟨v1, rfl, HBa, hB1⟩; have hY : Below W.heap.size W V1 := hY.trans (hB1.mono hY.size))
      | (go_at_call 17; (with_reducible refine (H2.out _ _ HBa.out (HBZ.out _ hY)).mono ?_); rintro e V2 ⟨v2, rfl, HBb, hB2⟩; have hY : Below W.heap.size W V2 := hY.trans (hB2.mono hY.size))
      | (go_at_call 18; (with_reducible refine (H3.out _ _ HBb.out (HBZ.out _ hY)).mono ?_); rintro e V3 ⟨v3, rfl, HBc, hB3⟩; have hY : Below W.heap.size W V3 := hY.trans (hB3.mono hY.size))
      | (go_at_call 17; (with_reducible refine (H4.out _ _ HBc.out (HBZ.out _ hY)).mono ?_); rintro e V4 ⟨v4, rfl, HBd, hB4⟩; have hY : Below W.heap.size W V4 := hY.trans (hB4.mono hY.size)))
    all_goals
      go_wp2_with fail
      go_meet
      case rel => exact ⟨HBd, hY⟩
  case rest =>
    obtain ⟨HV, HBV⟩ := hcut
    obtain ⟨V0, hV0⟩ : ∃ V, V = wc := ⟨_, rfl⟩
    rw [← hV0] at HV HBV ⊢
    clear hV0 x0 x1 x2 x3 H1 H2 H3 H4 hY HB0
    go_wp2_with fail
    go_loopw [0, 5] (fun a i wr => ∃ j : Nat, j ≤ len ∧ i = .int .i64 j ∧ Hid (BR B wr a (z4 ++ (LS.take j).flatMap (encPt d))) ∧ Hid (Below W.heap.size W wr)) (fun _ i _ => len - (intOf i).toNat)
    case atStart => exact ⟨0, Nat.zero_le _, rfl, by simpa using HV, HBV⟩
    case round =>
      obtain ⟨j, hj, rfl, HVj, HBj⟩ := hrel
      clear HV HBV
      obtain ⟨_, _, _, x3⟩ := HSK.out wr HBj.out
      by_cases hjl : j < len
      · obtain ⟨u, hu⟩ : ∃ u, LS[j]? = some u := ⟨_, List.getElem?_eq_getElem (by have := HL.out; omega)⟩
        obtain ⟨b, o, vs, rfl, hvl, hcell, hre⟩ := HE.out j u hu
        obtain ⟨y0, y1, y2, ya3, yl3, yc3, rfl⟩ := PatR.shape _ _ _ _ hre
        have hbw := HBW.out.trans (HBj.out.mono HBW.out.size)
        have f0 : wr.cell? ⟨b, o + j * 4, none⟩ = some _ := cell_later hbw (hcell 0 _ rfl)
        have f1 : wr.cell? ⟨b, o + j * 4 + 1, none⟩ = some _ := cell_later hbw (hcell 1 _ rfl)
        have f2 : wr.cell? ⟨b, o + j * 4 + 2, none⟩ = some _ := cell_later hbw (hcell 2 _ rfl)
        have f3 : wr.cell? ⟨b, o + j * 4 + 3, none⟩ = some _ := cell_later hbw (hcell 3 _ rfl)
        have hp := flat_part (encPt d) LS (j + 1)
        have ht := flat_take (f := encPt d) hu
        have hC := HI.out B u0 _ _ u wr HVj.out (HBZ.out _ HBj.out) (PatR.lasts d _ _ _ _ hre hbw) (HWL.out u (List.mem_of_getElem? hu)) (by have := HLB.out; rw [ht, List.length_append] at hp; rw [List.length_append]; omega)
        rw [List.append_assoc, ← ht] at hC
        have hjl' : (j : Int) < (len : Int) := by omega
        clear hu hvl hcell hre hbw hp ht HVj
        go_wp2_with fail
        refine hC.mono ?_
        clear hC
        rintro e w1 ⟨v1, rfl, HN, hb1⟩
        have HB2 : Hid (Below W.heap.size W w1) := HBj.out.trans (hb1.mono HBj.out.size)
        clear hb1 f0 f1 f2 f3 x3 HBj
        go_wp2_with fail
        go_roundw
        case rel => exact ⟨j + 1, by omega, by go_num, HN, HB2⟩
        case measure => simp [intOf]; omega
      · obtain rfl : j = len := by omega
        have HF : Hid (BR B wr u0 (z4 ++ LS.flatMap (encPt d))) := by
          have := HVj.out
          rw [List.take_of_length_le (by have := HL.out; omega)] at this
          exact this
        have HB2 : Hid (Below w.heap.size w wr) := HBW.out.trans (HBj.out.mono HBW.out.size)
        have hjl' : decide ((j : Int) < (j : Int)) = false := by simp
        clear HVj HBj
        go_wp2_with fail
        go_ret
        exact ⟨u0, rfl, HF, HB2.out⟩

theorem specPutPat_any : ∀ d, SpPC d := by
  intro d
  induction d with
  | zero => intro B v zs vs t w _ _ h; exact h.elim
  | succ d ih => exact specPutPat_of d ih

end Go.Proofs.YtfachfimdenapaaDoor

/- The bytes of a pattern: the program's. -/
namespace Go.Proofs.YtfachfimdenapaaDoor
open Go.RowKit
set_option linter.unusedVariables false

theorem al1 {w : World} {c : Nat} {o p : Obj} (h : w.heap[c]? = some o) : (w.alloc p).heap[c]? = some o := by
  rw [Below.heap_alloc _ _ _ (lt_row h)]
  exact h
theorem ob_alloc {B : Nat} {w : World} {v : Value} {zs : List Int} {o : Obj} (h : OB B w v zs) : OB B (w.alloc o) v zs := World.ownsRow.alloc h _
theorem ob_drew {B : Nat} {w : World} {v : Value} {zs : List Int} (h : OB B w v zs) : OB B w.drew v zs := h
theorem al_new {w : World} {c : Nat} {o : Obj} (h : c = w.heap.size) : (w.alloc o).heap[c]? = some o := by rw [h]; exact heap_alloc_new w o
theorem hp_drew {w : World} {c : Nat} {x : Option Obj} (h : w.heap[c]? = x) : w.drew.heap[c]? = x := h
theorem kpa {B : Nat} {a b : World} {o : Obj} (hB : B ≤ a.heap.size) (h : Kp B a b) : Kp B a (b.alloc o) := h.alloc (Nat.le_trans hB h.bel.size) o

def AppC (d : Nat) : Prop := ∀ (w0 : World) (v : Value) (xs : List Int) (vs : List Value) (t : Tm d) (w : World), PatR d w0 vs t → WfPat d t → Below w0.heap.size w0 w → OB w0.heap.size w v xs → xs.length + (encPt d t).length ≤ 1073741824 →
  Calls Tryd.prog 25 #[v, .agg vs.toArray] w fun e w' => ∃ v', e = .returned v' ∧ Hid (OB w0.heap.size w' v' (xs ++ encPt d t)) ∧ Kp w0.heap.size w w'

set_option maxRecDepth 100000 in
set_option maxHeartbeats 8000000 in
theorem appendPat_of (d : Nat) (H : AppC d) : AppC (d + 1) := by
  rintro w0 v zs vs t w ⟨v3, rfl, h3⟩ ⟨wk, wn, ws, wl⟩ hbel hob hlen
  obtain ⟨a3, c3, rfl, hel0⟩ := h3
  have hlen' : zs.length + (encQ t.K t.N t.S t.L.length ++ t.L.flatMap (encPt d)).length ≤ 1073741824 := hlen
  rw [List.length_append] at hlen'
  unfold encQ at hlen'
  simp only [List.length_append] at hlen'
  have hll : t.L.length ≤ 9223372036854775807 := wl.1
  obtain ⟨B, hB⟩ : ∃ B, w0.heap.size = B := ⟨_, rfl⟩
  have hBw : B ≤ w.heap.size := by rw [← hB]; exact hbel.size
  obtain ⟨z2, hz2⟩ : ∃ z, zs ++ encs [t.K, t.N] = z := ⟨_, rfl⟩
  obtain ⟨z3, hz3⟩ : ∃ z, z2 ++ put t.S = z := ⟨_, rfl⟩
  obtain ⟨z4, hz4⟩ : ∃ z, z3 ++ encs [(t.L.length : Int)] = z := ⟨_, rfl⟩
  have e2 : encs [t.K, t.N] = enc (code t.K) ++ enc (code t.N) := by simp [encs]
  have e1 : encs [(t.L.length : Int)] = enc (code t.L.length) := by simp [encs]
  have l2 : z2.length = zs.length + ((enc (code t.K)).length + (enc (code t.N)).length) := by rw [← hz2, e2]; simp only [List.length_append]
  have l3 : z3.length = z2.length + (put t.S).length := by rw [← hz3, List.length_append]
  have l4 : z4.length = z3.length + (enc (code t.L.length)).length := by rw [← hz4, e1, List.length_append]
  have hss : t.S.size ≤ 1073741824 := by rw [put, List.length_append, nums_length] at hlen'; omega
  have HZ4 : Hid (zs ++ encPt (d + 1) t = z4 ++ t.L.flatMap (encPt d)) := by
    show zs ++ (encQ t.K t.N t.S t.L.length ++ t.L.flatMap (encPt d)) = _
    rw [← hz4, ← hz3, ← hz2, e1, e2]; unfold encQ; simp only [List.append_assoc]
  rw [hB] at hob
  have H1 : Hid (∀ (V : World) (c0 : Nat), OB B V v zs → B ≤ V.heap.size → V.heap[c0]? = some (.cells #[.int .i64 t.K, .int .i64 t.N] 3 (0, 0)) → Calls Tryd.prog 23 #[v, .slice (some ⟨c0, 0, none⟩) 2 2] V fun e w' => ∃ v', e = .returned v' ∧ Hid (OB B w' v' (zs ++ encs [t.K, t.N])) ∧ Kp B V w') := fun V c0 h1 h2 h3 => nums_any v zs B c0 2 [t.K, t.N] V h1 h2 h3 (by omega) (fun N hN => by simp at hN; rcases hN with rfl | rfl; exact wk; exact wn) (by simp)
  have H2 : Hid (∀ (V : World) (c0 : Nat) (v1 : Value), OB B V v1 z2 → B ≤ V.heap.size → V.heap[c0]? = some (.cells #[.string t.S] 9 (0, 0)) → Calls Tryd.prog 41 #[v1, .slice (some ⟨c0, 0, none⟩) 1 1] V fun e w' => ∃ v', e = .returned v' ∧ Hid (OB B w' v' (z2 ++ put t.S)) ∧ Kp B V w') := fun V c0 v1 h1 h2 h3 => text_any v1 z2 B c0 1 t.S V h1 h2 h3 (by omega) hss
  have H3 : Hid (∀ (V : World) (c0 : Nat) (v1 : Value), OB B V v1 z3 → B ≤ V.heap.size → V.heap[c0]? = some (.cells #[.int .i64 (t.L.length : Int)] 3 (0, 0)) → Calls Tryd.prog 23 #[v1, .slice (some ⟨c0, 0, none⟩) 1 1] V fun e w' => ∃ v', e = .returned v' ∧ Hid (OB B w' v' (z3 ++ encs [(t.L.length : Int)])) ∧ Kp B V w') := fun V c0 v1 h1 h2 h3 => nums_any v1 z3 B c0 1 [(t.L.length : Int)] V h1 h2 h3 (by omega) (fun N hN => by simp at hN; subst hN; exact ⟨by omega, by omega⟩) (by simp)
  rw [hz2] at H1
  rw [hz3] at H2
  rw [hz4] at H3
  have HLB : Hid (z4.length + (t.L.flatMap (encPt d)).length ≤ 1073741824) := by show _ ≤ _; omega
  have HE : Hid (∀ (i : Nat) (e : Tm d), t.L[i]? = some e → ∃ b o vs, a3 = some ⟨b, o, none⟩ ∧ vs.length = 4 ∧ (∀ (j : Nat) (u : Value), vs[j]? = some u → w0.cell? ⟨b, o + i * 4 + j, none⟩ = some u) ∧ PatR d w0 vs e) := hel0
  have HWL : Hid (∀ x ∈ t.L, WfPat d x) := wl.2
  rw [HZ4.out, hB]
  obtain ⟨LS, hLS⟩ : ∃ l, t.L = l := ⟨_, rfl⟩
  obtain ⟨K, hK⟩ : ∃ l, t.K = l := ⟨_, rfl⟩
  obtain ⟨N, hN⟩ : ∃ l, t.N = l := ⟨_, rfl⟩
  obtain ⟨S, hS⟩ : ∃ l, t.S = l := ⟨_, rfl⟩
  rw [hLS] at HLB HE HWL H3 hll ⊢
  rw [hK, hN] at H1
  rw [hS] at H2
  rw [hK, hN, hS]
  have HI : Hid (AppC d) := H
  have HB0W : Hid (Below w0.heap.size w0 w ∧ w0.heap.size = B) := ⟨hbel, hB⟩
  clear hz2 hz3 hz4 e1 e2 l2 l3 l4 hss hlen hlen' HZ4 hLS hK hN hS wk wn ws wl hel0 H hbel hB
  obtain ⟨len, hl⟩ : ∃ l, LS.length = l := ⟨_, rfl⟩
  have HL : Hid (LS.length = len) := hl
  rw [hl] at hll H3 ⊢
  clear hl
  obtain ⟨W, hW⟩ : ∃ W, W = w.alloc (.cells #[.int .i64 K, .int .i64 N, .string S, .slice a3 len c3] 51) := ⟨_, rfl⟩
  have HKW : Hid (Kp B w W) := by rw [hW]; exact (Kp.refl B w).alloc hBw _
  have HB1 : Hid (W.heap[w.heap.size]? = some (.cells #[.int .i64 K, .int .i64 N, .string S, .slice a3 len c3] 51 (0, 0))) := by rw [hW]; exact heap_alloc_new w _
  have HBZ : Hid (B ≤ W.heap.size) := Nat.le_trans hBw HKW.out.bel.size
  have HWS : Hid (W = _) := hW
  have HSK : Hid (∀ V : World, Kp B W V → V.cell? ⟨w.heap.size, 0, none⟩ = some (.int .i64 K) ∧ V.cell? ⟨w.heap.size, 1, none⟩ = some (.int .i64 N) ∧ V.cell? ⟨w.heap.size, 2, none⟩ = some (.string S) ∧ V.cell? ⟨w.heap.size, 3, none⟩ = some (.slice a3 len c3)) := fun V hV => by
    have hr := hV.far _ _ HB1.out (n5_of (by decide))
    exact ⟨by rw [cell_of_row V _ 0 _ _ _ hr]; rfl, by rw [cell_of_row V _ 1 _ _ _ hr]; rfl, by rw [cell_of_row V _ 2 _ _ _ hr]; rfl, by rw [cell_of_row V _ 3 _ _ _ hr]; rfl⟩
  have HO0 : Hid (OB B W v zs) := by rw [hW]; exact ob_alloc hob
  have HZB : Hid (∀ V : World, Kp B W V → B ≤ V.heap.size) := fun V hV => Nat.le_trans HBZ.out hV.bel.size
  have hY : Kp B W W := Kp.refl B W
  obtain ⟨x0, x1, x2, x3⟩ := HSK.out W (Kp.refl B W)
  clear hW hob
  go_enter Tryd.func25, Tryd.ntmps25
  go_wp2_with fail
  rw [← HWS.out]
  clear HWS
  go_cut [0] (fun v4 wx => Hid (OB B wx v4 z4) ∧ Hid (Kp B W wx))
  case first =>
    go_region_held3 (fun V => V.cell? ⟨w.heap.size, 0, none⟩ = some (.int .i64 K) ∧ V.cell? ⟨w.heap.size, 1, none⟩ = some (.int .i64 N) ∧ V.cell? ⟨w.heap.size, 2, none⟩ = some (.string S) ∧ V.cell? ⟨w.heap.size, 3, none⟩ = some (.slice a3 len c3)) (exact HSK.out _ (by repeat (first | with_reducible exact hY | with_reducible exact Kp.refl _ _ | with_reducible refine kpa HBZ.out ?_ | with_reducible refine Kp.drew ?_))) (first
      | (go_at_call 23; (with_reducible refine (H1.out _ _ ?_ (HZB.out _ ?_) ?_).mono ?_); (next => (repeat (first | with_reducible exact HO0.out | with_reducible refine ob_alloc ?_ | with_reducible refine ob_drew ?_))); (next => (repeat (first | with_reducible exact hY | with_reducible refine kpa HBZ.out ?_ | with_reducible refine Kp.drew ?_))); (next => (repeat (first | with_reducible exact heap_alloc_new _ _ | (refine al_new ?_; solve | with_reducible rfl | (simp; done)) | with_reducible refine al1 ?_ | with_reducible refine hp_drew ?_))); rintro e V1 ⟨v1, rfl, HOa, hK1⟩; have hY : Kp B W V1 := (by refine Kp.trans ?_ hK1; repeat (first | with_reducible exact hY | with_reducible refine kpa HBZ.out ?_ | with_reducible refine Kp.drew ?_)))
      | (go_at_call 41; (with_reducible refine (H2.out _ _ _ ?_ (HZB.out _ ?_) ?_).mono ?_); (next => (repeat (first | with_reducible exact HOa.out | with_reducible refine ob_alloc ?_ | with_reducible refine ob_drew ?_))); (next => (repeat (first | with_reducible exact hY | with_reducible refine kpa HBZ.out ?_ | with_reducible refine Kp.drew ?_))); (next => (repeat (first | with_reducible exact heap_alloc_new _ _ | (refine al_new ?_; solve | with_reducible rfl | (simp; done)) | with_reducible refine al1 ?_ | with_reducible refine hp_drew ?_ | with_reducible refine hK1.far _ _ ?_ (n5_of (by decide))))); rintro e V2 ⟨v2, rfl, HOb, hK2⟩; have hY : Kp B W V2 := (by refine Kp.trans ?_ hK2; repeat (first | with_reducible exact hY | with_reducible refine kpa HBZ.out ?_ | with_reducible refine Kp.drew ?_)))
      | (go_at_call 23; (with_reducible refine (H3.out _ _ _ ?_ (HZB.out _ ?_) ?_).mono ?_); (next => (repeat (first | with_reducible exact HOb.out | with_reducible refine ob_alloc ?_ | with_reducible refine ob_drew ?_))); (next => (repeat (first | with_reducible exact hY | with_reducible refine kpa HBZ.out ?_ | with_reducible refine Kp.drew ?_))); (next => (repeat (first | with_reducible exact heap_alloc_new _ _ | (refine al_new ?_; solve | with_reducible rfl | (simp; done)) | with_reducible refine al1 ?_ | with_reducible refine hp_drew ?_ | with_reducible refine hK1.far _ _ ?_ (n5_of (by decide)) | with_reducible refine hK2.far _ _ ?_ (n5_of (by decide))))); rintro e V3 ⟨v3, rfl, HOc, hK3⟩; have hY : Kp B W V3 := (by refine Kp.trans ?_ hK3; repeat (first | with_reducible exact hY | with_reducible refine kpa HBZ.out ?_ | with_reducible refine Kp.drew ?_))))
    all_goals
      have HYF : Hid (Kp B W V3) := hY
      clear hY hK1 hK2 hK3
      go_wp2_with fail
      go_meet
      case rel => exact ⟨HOc, HYF⟩
  case rest =>
    obtain ⟨HV, HBV⟩ := hcut
    obtain ⟨V0, hV0⟩ : ∃ V, V = wc := ⟨_, rfl⟩
    rw [← hV0] at HV HBV ⊢
    obtain ⟨_, _, _, y3⟩ := HSK.out V0 HBV.out
    clear hV0 x0 x1 x2 x3 H1 H2 H3 hY HO0
    go_wp2_with fail
    clear y3
    go_loopw [0, 26] (fun a i wr => ∃ j : Nat, j ≤ len ∧ i = .int .i64 j ∧ Hid (OB B wr a (z4 ++ (LS.take j).flatMap (encPt d))) ∧ Hid (Kp B W wr)) (fun _ i _ => len - (intOf i).toNat)
    case atStart => exact ⟨0, Nat.zero_le _, rfl, by simpa using HV, HBV⟩
    case round =>
      obtain ⟨j, hj, rfl, HVj, HBj⟩ := hrel
      clear HV HBV
      by_cases hjl : j < len
      · obtain ⟨u, hu⟩ : ∃ u, LS[j]? = some u := ⟨_, List.getElem?_eq_getElem (by have := HL.out; omega)⟩
        obtain ⟨b, o, vs, rfl, hvl, hcell, hre⟩ := HE.out j u hu
        obtain ⟨y0, y1, y2, ya3, yl3, yc3, rfl⟩ := PatR.shape _ _ _ _ hre
        have hk0 : Kp B w wr := HKW.out.trans HBj.out
        have hbw : Below w0.heap.size w0 wr := HB0W.out.1.trans (by rw [HB0W.out.2]; exact hk0.bel)
        have f0 : wr.cell? ⟨b, o + j * 4, none⟩ = some _ := cell_later hbw (hcell 0 _ rfl)
        have f1 : wr.cell? ⟨b, o + j * 4 + 1, none⟩ = some _ := cell_later hbw (hcell 1 _ rfl)
        have f2 : wr.cell? ⟨b, o + j * 4 + 2, none⟩ = some _ := cell_later hbw (hcell 2 _ rfl)
        have f3 : wr.cell? ⟨b, o + j * 4 + 3, none⟩ = some _ := cell_later hbw (hcell 3 _ rfl)
        have hp := flat_part (encPt d) LS (j + 1)
        have ht := flat_take (f := encPt d) hu
        obtain ⟨X, hX⟩ : ∃ X, X = wr.alloc (.cells #[.int .i64 y0, .int .i64 y1, .string y2, .slice ya3 yl3 yc3] 51) := ⟨_, rfl⟩
        have hkX : Kp B W X := by rw [hX]; exact kpa HBZ.out HBj.out
        have hoX : OB B X u0 (z4 ++ (LS.take j).flatMap (encPt d)) := by rw [hX]; exact ob_alloc HVj.out
        have hbX : Below w0.heap.size w0 X := HB0W.out.1.trans (by rw [HB0W.out.2]; exact (HKW.out.trans hkX).bel)
        have hC := HI.out w0 u0 _ _ u X hre (HWL.out u (List.mem_of_getElem? hu)) hbX (by rw [HB0W.out.2]; exact hoX) (by have := HLB.out; rw [ht, List.length_append] at hp; rw [List.length_append]; omega)
        rw [List.append_assoc, ← ht, HB0W.out.2, hX] at hC
        have HX : Hid (X = _) := hX
        have HKX : Hid (Kp B W X) := hkX
        have hjl' : (j : Int) < (len : Int) := by omega
        clear hu hvl hcell hre hbw hp ht HVj hX hkX hoX hbX hk0
        go_wp2_with fail
        refine hC.mono ?_
        clear hC
        rintro e w1 ⟨v1, rfl, HN, hk1⟩
        rw [← HX.out] at hk1
        have HB2 : Hid (Kp B W w1) := HKX.out.trans hk1
        clear hk1 f0 f1 f2 f3 HBj HX HKX
        go_wp2_with fail
        go_roundw
        case rel => exact ⟨j + 1, by omega, by go_num, HN, HB2⟩
        case measure => simp [intOf]; omega
      · obtain rfl : j = len := by omega
        have HF : Hid (OB B wr u0 (z4 ++ LS.flatMap (encPt d))) := by
          have := HVj.out
          rw [List.take_of_length_le (by have := HL.out; omega)] at this
          exact this
        have HB2 : Hid (Kp B w wr) := HKW.out.trans HBj.out
        have hjl' : decide ((j : Int) < (j : Int)) = false := by simp
        clear HVj HBj
        go_wp2_with fail
        go_ret
        exact ⟨u0, rfl, HF, HB2.out⟩

theorem appendPat_any : ∀ d, AppC d := by
  intro d
  induction d with
  | zero => intro w0 v zs vs t w h; exact h.elim
  | succ d ih => exact appendPat_of d ih

end Go.Proofs.YtfachfimdenapaaDoor
