/- The law's own marks on lists of structs: what is left of a list. -/
import Derived.Test.YtpokheklplcamaaXm3M
import Derived.Test.YtpokheklplcamaaMarkTM
namespace Go.Proofs.Ytpokheklplcamaa
open Go.RowKit
set_option linter.unusedVariables false

/-- The contract of marks on a list: how far the marks go, and that nothing else is written. -/
def MkL {α : Type} (F k : Nat) (T : TypeId) (O : World → List Value → α → List Nat → Prop) (c : α → Nat) : Prop := ∀ (v : Value) (xs : List α) (fp : List Nat) (q : Int) (w : World), OwnRow k T O w v xs fp → fp.Nodup → 0 ≤ q → q + ((xs.map c).sum : Nat) ≤ 1099511627776 → xs.length ≤ 1099511627776 →
  Calls Try.prog F #[v, .int .i64 q] w fun e w' => ∃ q' : Int, e = .returned (.int .i64 q') ∧ 0 ≤ q' ∧ q' ≤ q + ((xs.map c).sum : Nat) ∧ Wrote fp w w'

/-- From the jth on a list lies as it lay. -/
def RestRow {α : Type} (k : Nat) (O : World → List Value → α → List Nat → Prop) (xs : List α) (j : Nat) (w : World) (cur : Array Value) (fps : List (List Nat)) : Prop :=
  ∀ (i : Nat) (x : α), j ≤ i → xs[i]? = some x → ∃ vs f, fps[i]? = some f ∧ vs.length = k ∧ (∀ (m : Nat) (u : Value), vs[m]? = some u → cur[i * k + m]? = some u) ∧ O w vs x f

/-- All blocks are there. -/
def InHeap {α : Type} (O : World → List Value → α → List Nat → Prop) : Prop := ∀ w vs x f, O w vs x f → ∀ g ∈ f, g < w.heap.size

theorem OwnRow.lt {α : Type} {k : Nat} {T : TypeId} {O : World → List Value → α → List Nat → Prop} (hI : InHeap O) {w : World} {v : Value} {xs : List α} {fp : List Nat} (h : OwnRow k T O w v xs fp) : ∀ g ∈ fp, g < w.heap.size := by
  intro g hg
  rcases h with ⟨_, rfl, _⟩ | ⟨g0, c, cur, fps, _, h2, h3, rfl, h4⟩
  · cases hg
  · rcases List.mem_cons.1 hg with rfl | hg
    · exact lt_row h2
    · obtain ⟨f, hf, hgf⟩ := List.mem_flatten.1 hg
      obtain ⟨i, hi, e⟩ := List.getElem_of_mem hf
      obtain ⟨t, ht⟩ : ∃ t, xs[i]? = some t := ⟨_, List.getElem?_eq_getElem (by omega)⟩
      obtain ⟨vs, f', e1, _, _, e6⟩ := h4 i t ht
      rw [List.getElem?_eq_getElem hi, e] at e1
      cases e1
      exact hI _ _ _ _ e6 g hgf

theorem ClO.lt {α : Type} {O : World → List Value → α → List Nat → Prop} (h : InHeap O) : InHeap (ClO O) := by
  rintro w vs c fp ⟨p, x, f, g, rfl, rfl, h1, h2⟩ y hy
  rcases List.mem_append.1 hy with hy | hy
  · exact h _ _ _ _ h1 y hy
  · exact h _ _ _ _ h2 y hy
theorem ExO.lt : ∀ d, InHeap (ExO d) := by
  intro d
  induction d with
  | zero => intro w vs x f h; exact h.elim
  | succ d ih =>
    rintro w vs x fp ⟨ve, vc, f, g, rfl, rfl, h1, h2⟩ y hy
    rcases List.mem_append.1 hy with hy | hy
    · exact h1.lt ih y hy
    · exact h2.lt (ClO.lt ih) y hy

/-- One is marked. -/
theorem rest_step {α : Type} {k : Nat} {O : World → List Value → α → List Nat → Prop} (hO : LastsO O) (hI : InHeap O) {xs : List α} {j g : Nat} {wr V2 : World} {cur cur3 : Array Value} {fps : List (List Nat)} {f : List Nat} (hH : RestRow k O xs j wr cur fps) (hf : fps[j]? = some f) (hnd : (g :: fps.flatten).Nodup)
    (hW : Wrote (g :: f) wr V2) (hc : ∀ m, (j + 1) * k ≤ m → cur3[m]? = cur[m]?) : RestRow k O xs (j + 1) V2 cur3 fps := by
  intro i x hi hx
  obtain ⟨vs, f', e1, e2, e3, e4⟩ := hH i x (by omega) hx
  refine ⟨vs, f', e1, e2, fun m u hu => ?_, hO _ _ _ _ _ e4 fun y hy => ?_⟩
  · have h1 : (j + 1) * k ≤ i * k := Nat.mul_le_mul_right k hi
    rw [hc _ (by omega)]
    exact e3 m u hu
  · refine hW.block y (hI _ _ _ _ e4 y hy) fun hm => ?_
    rcases List.mem_cons.1 hm with rfl | hm
    · exact (List.nodup_cons.1 hnd).1 (List.mem_flatten.2 ⟨f', List.mem_of_getElem? e1, hy⟩)
    · exact (nodup_fl fps (List.nodup_cons.1 hnd).2).2 j i f f' (by omega) hf e1 y hm hy

/-- How many marks an expression takes beside its own. -/
def ckX : (d : Nat) → Ex d → Nat
  | 0, _ => 0
  | d + 1, e => (e.E.map fun x => 3 + ckX d x).sum + (e.C.map fun c => 6 + ckX d c.1 + ckX d c.2).sum

theorem ckX_le : ∀ (d : Nat) (e : Ex d), ckX d e ≤ 6 * szX d e := by
  intro d
  induction d with
  | zero => intro e; exact Nat.zero_le _
  | succ d ih =>
    intro e
    have h1 : (e.E.map fun x => 3 + ckX d x).sum ≤ 6 * szRow (szX d) e.E := by
      unfold szRow
      generalize e.E = l
      induction l with
      | nil => exact Nat.zero_le _
      | cons x l ihl => simp only [List.map_cons, List.sum_cons, List.length_cons]; have := ih x; omega
    have h2 : (e.C.map fun c => 6 + ckX d c.1 + ckX d c.2).sum ≤ 6 * szRow (ClF (szX d)) e.C := by
      unfold szRow
      generalize e.C = l
      induction l with
      | nil => exact Nat.zero_le _
      | cons x l ihl => simp only [List.map_cons, List.sum_cons, List.length_cons]; have := ih x.1; have := ih x.2; show _ ≤ 6 * (_ + ((szX d x.1 + szX d x.2) + _)); omega
    show (e.E.map fun x => 3 + ckX d x).sum + (e.C.map fun c => 6 + ckX d c.1 + ckX d c.2).sum ≤ 6 * (e.S.size + szRow (szX d) e.E + szRow (ClF (szX d)) e.C)
    omega

end Go.Proofs.Ytpokheklplcamaa

/- The law's own marks on lists of expressions: the walk. -/
namespace Go.Proofs.Ytpokheklplcamaa
open Go.RowKit
set_option linter.unusedVariables false

theorem in_ab {g y : Nat} {a b : List Nat} (h : y ∈ g :: a) : y ∈ g :: (a ++ b) := by
  rcases List.mem_cons.1 h with e | e
  · exact List.mem_cons.2 (.inl e)
  · exact List.mem_cons_of_mem _ (List.mem_append_left _ e)
theorem in_ac {g y : Nat} {a b : List Nat} (h : y ∈ g :: b) : y ∈ g :: (a ++ b) := by
  rcases List.mem_cons.1 h with e | e
  · exact List.mem_cons.2 (.inl e)
  · exact List.mem_cons_of_mem _ (List.mem_append_right _ e)
theorem len_sum {α : Type} (f : α → Nat) (l : List α) (h : ∀ x, 1 ≤ f x) : l.length ≤ (l.map f).sum := by
  induction l with
  | nil => exact Nat.le_refl _
  | cons x l ih => simp only [List.length_cons, List.map_cons, List.sum_cons]; have := h x; omega

set_option maxRecDepth 100000 in
set_option maxHeartbeats 4000000 in
theorem markExprS_of (d : Nat) (HE : MkL 50 5 27 (ExO d) (fun x => 3 + ckX d x)) (HC : MkL 51 10 33 (ClO (ExO d)) (fun c => 6 + ckX d c.1 + ckX d c.2)) : MkL 50 5 27 (ExO (d + 1)) (fun x => 3 + ckX (d + 1) x) := by
  intro v xs fp k w hown hnd h0 h1 hln
  obtain ⟨CC, hCC⟩ : ∃ CC : Ex (d + 1) → Nat, CC = (fun x => 3 + ckX (d + 1) x) := ⟨_, rfl⟩
  rw [← hCC] at h1 ⊢
  have HCC : Hid (CC = (fun x => 3 + ckX (d + 1) x)) := hCC
  clear hCC
  rcases hown with ⟨rfl, rfl, a, c, rfl⟩ | ⟨g, c, cur0, fps, rfl, hh0, hfl, rfl, hel⟩
  · go_enter Try.func50, Try.ntmps50
    go_wp2
    refine wp_loop_rounds 1 ?_
    rw [rounds_succ]
    go_wp2
    go_ret
    exact ⟨k, rfl, h0, by simp, Wrote.refl _ _⟩
  · have HME : Hid (MkL 50 5 27 (ExO d) (fun x => 3 + ckX d x)) := HE
    have HMC : Hid (MkL 51 10 33 (ClO (ExO d)) (fun c => 6 + ckX d c.1 + ckX d c.2)) := HC
    have HND : Hid ((g :: fps.flatten).Nodup) := hnd
    have HH0 : Hid (RestRow 5 (ExO (d + 1)) xs 0 w cur0 fps) := fun i x _ hx => hel i x hx
    have HB : Hid (k + ((xs.map CC).sum : Nat) ≤ 1099511627776) := h1
    obtain ⟨len, hl⟩ : ∃ len, xs.length = len := ⟨_, rfl⟩
    have HL : Hid (xs.length = len) := hl
    rw [hl] at hln ⊢
    clear HE HC hel hl hnd hfl h1
    go_enter Try.func50, Try.ntmps50
    go_wp2_with fail
    go_loopw [1, 5] (fun x i wr => ∃ (j : Nat) (cur : Array Value) (q : Int), j ≤ len ∧ i = .int .i64 j ∧ x = .int .i64 q ∧ 0 ≤ q ∧ q ≤ k + (sumP CC xs j : Nat) ∧ wr.heap[g]? = some (.cells cur 27 (0, 0)) ∧ Hid (RestRow 5 (ExO (d + 1)) xs j wr cur fps) ∧ Hid (Wrote (g :: fps.flatten) w wr)) (fun _ i _ => len - (intOf i).toNat)
    case atStart => exact ⟨0, cur0, k, Nat.zero_le _, rfl, rfl, h0, by show k ≤ k + ((0 : Nat) : Int); omega, hh0, HH0, Wrote.refl _ _⟩
    case round =>
      obtain ⟨j, cur, q, hj, rfl, rfl, hq0, hqs, hh, HHf, HWR⟩ := hrel
      have hq1 : q ≤ 1099511627776 := by have := sumP_le CC xs j; have := HB.out; omega
      clear HH0 hh0
      by_cases hjl : j < len
      · obtain ⟨t, ht⟩ : ∃ t, xs[j]? = some t := ⟨_, List.getElem?_eq_getElem (by rw [HL.out]; exact hjl)⟩
        have HT : Hid (xs[j]? = some t) := ht
        obtain ⟨vs, f, hf, hvl, hcell, hO⟩ := HHf.out j t (Nat.le_refl _) ht
        obtain ⟨vea, vca, fea, fca, rfl, rfl, hEa, hCa⟩ := hO
        obtain ⟨xaa, xca, rfl⟩ := (hEa.rd (ExO.reads d)).slice
        obtain ⟨yaa, yca, rfl⟩ := (hCa.rd (ClO.reads (ExO.reads d))).slice
        obtain ⟨xla, hxla⟩ : ∃ l, t.E.length = l := ⟨_, rfl⟩
        obtain ⟨yla, hyla⟩ : ∃ l, t.C.length = l := ⟨_, rfl⟩
        rw [hxla] at hEa
        rw [hyla] at hCa
        have kaa : cur[j * 5]? = some (.int .i64 t.K) := hcell 0 _ rfl
        have kba : cur[j * 5 + 1]? = some (.int .i64 t.N) := hcell 1 _ rfl
        have kca : cur[j * 5 + 3]? = some (.slice xaa xla xca) := by rw [← hxla]; exact hcell 3 _ rfl
        have kda : cur[j * 5 + 4]? = some (.slice yaa yla yca) := by rw [← hyla]; exact hcell 4 _ rfl
        have hfn : (fea ++ fca).Nodup := (nodup_fl fps (List.nodup_cons.1 HND.out).2).1 _ (List.mem_of_getElem? hf)
        have hgf : g ∉ fea ++ fca := fun hm => (List.nodup_cons.1 HND.out).1 (List.mem_flatten.2 ⟨_, List.mem_of_getElem? hf, hm⟩)
        have hfa := List.nodup_append.1 hfn
        have HEa : Hid (OwnRow 5 27 (ExO d) wr (.slice xaa xla xca) t.E fea) := hEa
        have HCa : Hid (OwnRow 10 33 (ClO (ExO d)) wr (.slice yaa yla yca) t.C fca) := hCa
        have HGa : Hid ((∀ y ∈ fea, y ≠ g) ∧ (∀ y ∈ fca, y ≠ g) ∧ fea.Nodup ∧ fca.Nodup ∧ ∀ y ∈ fea, y ∉ fca) := ⟨fun y hy e => hgf (e ▸ List.mem_append_left _ hy), fun y hy e => hgf (e ▸ List.mem_append_right _ hy), hfa.1, hfa.2.1, fun y hy hy2 => hfa.2.2 y hy y hy2 rfl⟩
        have HCNa : Hid (q + 3 + ((t.E.map fun x => 3 + ckX d x).sum : Nat) + ((t.C.map fun c => 6 + ckX d c.1 + ckX d c.2).sum : Nat) ≤ 1099511627776) := by
          have h7 := sumP_succ CC xs j t ht
          have h8 := sumP_le CC xs (j + 1)
          have h9 := HB.out
          have h10 : CC t = 3 + ((t.E.map fun x => 3 + ckX d x).sum + (t.C.map fun c => 6 + ckX d c.1 + ckX d c.2).sum) := by rw [HCC.out]; rfl
          show _ ≤ _
          omega
        have HLEa : Hid (t.E.length ≤ 1099511627776 ∧ t.C.length ≤ 1099511627776) := by
          have l1 := len_sum (fun x : Ex d => 3 + ckX d x) t.E (fun x => by omega)
          have l2 := len_sum (fun c : Ex d × Ex d => 6 + ckX d c.1 + ckX d c.2) t.C (fun x => by omega)
          have := HCNa.out
          exact ⟨by omega, by omega⟩
        have HF : Hid (fps[j]? = some (fea ++ fca)) := hf
        clear hEa hCa hfn hgf hfa hf hcell
        have hsza : j * 5 + 4 < cur.size := (Array.getElem?_eq_some_iff.1 kda).1
        have hgsa : g < wr.heap.size := lt_row hh
        have saa : wr.cell? ⟨g, j * 5, none⟩ = some (.int .i64 t.K) := by rw [cell_of_row wr _ _ _ _ _ hh]; exact kaa
        have sba : wr.cell? ⟨g, j * 5 + 1, none⟩ = some (.int .i64 t.N) := by rw [cell_of_row wr _ _ _ _ _ hh]; exact kba
        have zaa : wr.frozen? ⟨g, j * 5, none⟩ = false := frozen_of_row wr _ _ _ _ hh
        have zba : wr.frozen? ⟨g, j * 5 + 1, none⟩ = false := frozen_of_row wr _ _ _ _ hh
        have hA1a := heap_setCell_same wr g (j * 5) cur 27 (.int .i64 q) hh
        have hA2a := heap_setCell_same _ g (j * 5 + 1) _ 27 (.int .i64 (q + 1)) hA1a
        obtain ⟨W2a, hW2a⟩ : ∃ W2, W2 = (wr.setCell ⟨g, j * 5, none⟩ (.int .i64 q)).setCell ⟨g, j * 5 + 1, none⟩ (.int .i64 (q + 1)) := ⟨_, rfl⟩
        have hWr2a : Wrote [g] wr W2a := by rw [hW2a]; exact (Wrote.of_set wr g (j * 5) _).trans (Wrote.of_set _ g (j * 5 + 1) _)
        rw [← hW2a] at hA2a
        have hCta := markText_any (q + 1 + 1) W2a (by omega) (by have := HCNa.out; omega)
        rw [hW2a] at hCta
        have HW2a : Hid (W2a = _) := hW2a
        have HA2a : Hid (W2a.heap[g]? = some (.cells ((cur.setIfInBounds (j * 5) (.int .i64 q)).setIfInBounds (j * 5 + 1) (.int .i64 (q + 1))) 27 (0, 0))) := hA2a
        have HWr2a : Hid (Wrote [g] wr W2a) := hWr2a
        have HKa : Hid (cur[j * 5 + 3]? = some (.slice xaa xla xca) ∧ cur[j * 5 + 4]? = some (.slice yaa yla yca)) := ⟨kca, kda⟩
        clear hA1a hA2a hW2a hWr2a
        go_wp2_with fail
        refine hCta.mono ?_
        clear hCta saa sba zaa zba
        rintro e Va ⟨rfl, hBVa⟩
        rw [← HW2a.out] at hBVa
        have hhVa := (hBVa.block g (lt_row HA2a.out)).trans HA2a.out
        obtain ⟨v2a, t2a⟩ : ∃ v, Va.cell? ⟨g, j * 5 + 2, none⟩ = some v := by rw [cell_of_row Va _ _ _ _ _ hhVa]; exact ⟨_, Array.getElem?_eq_getElem (by simp; omega)⟩
        have t3a : Va.cell? ⟨g, j * 5 + 3, none⟩ = some (.slice xaa xla xca) := by
          rw [cell_of_row Va _ _ _ _ _ hhVa, Array.getElem?_setIfInBounds_ne (by omega), Array.getElem?_setIfInBounds_ne (by omega)]; exact HKa.out.1
        have zza : Va.frozen? ⟨g, j * 5 + 2, none⟩ = false := frozen_of_row Va _ _ _ _ hhVa
        have hA3a := heap_setCell_same Va g (j * 5 + 2) _ 27 (.string (mt (q + 1 + 1))) hhVa
        obtain ⟨W3a, hW3a⟩ : ∃ W3, W3 = Va.setCell ⟨g, j * 5 + 2, none⟩ (.string (mt (q + 1 + 1))) := ⟨_, rfl⟩
        have hWr3a : Wrote [g] wr W3a := (HWr2a.out.trans (Wrote.of_below hBVa)).trans (by rw [hW3a]; exact Wrote.of_set Va g (j * 5 + 2) _)
        rw [← hW3a] at hA3a
        have hE3a := HEa.out.frame (w' := W3a) (ExO.lasts d) fun y hy => hWr3a.block y (HEa.out.lt (ExO.lt d) y hy) (fun hm => HGa.out.1 y hy (by simpa using hm))
        have hC2a := HME.out (.slice xaa xla xca) t.E fea (q + 1 + 1 + 1) W3a hE3a HGa.out.2.2.1 (by omega) (by have := HCNa.out; omega) (by have := HLEa.out.1; omega)
        have HW3a : Hid (W3a = _) := hW3a
        have HA3a : Hid (W3a.heap[g]? = some (.cells (((cur.setIfInBounds (j * 5) (.int .i64 q)).setIfInBounds (j * 5 + 1) (.int .i64 (q + 1))).setIfInBounds (j * 5 + 2) (.string (mt (q + 1 + 1)))) 27 (0, 0))) := hA3a
        have HWr3a : Hid (Wrote [g] wr W3a) := hWr3a
        rw [hW3a] at hC2a
        clear hW3a hA3a hE3a hWr3a hBVa hhVa
        go_wp2_with fail
        refine hC2a.mono ?_
        clear hC2a t2a t3a zza
        rintro e V2a ⟨q1a, rfl, hq10a, hq11a, hw2a⟩
        rw [← HW3a.out] at hw2a
        have hhFa := (hw2a.block g (lt_row HA3a.out) (fun hm => HGa.out.1 g hm rfl)).trans HA3a.out
        have hWr4a : Wrote (g :: fea) wr V2a := (HWr3a.out.mono fun y hy => by simp at hy; simp [hy]).trans (hw2a.mono fun y hy => List.mem_cons_of_mem _ hy)
        have t4a : V2a.cell? ⟨g, j * 5 + 4, none⟩ = some (.slice yaa yla yca) := by
          rw [cell_of_row V2a _ _ _ _ _ hhFa, Array.getElem?_setIfInBounds_ne (by omega), Array.getElem?_setIfInBounds_ne (by omega), Array.getElem?_setIfInBounds_ne (by omega)]; exact HKa.out.2
        have hCCa := HCa.out.frame (w' := V2a) (ClO.lasts (ExO.lasts d)) fun y hy => hWr4a.block y (HCa.out.lt (ClO.lt (ExO.lt d)) y hy) (fun hm => by
          rcases List.mem_cons.1 hm with e | hm
          · exact HGa.out.2.1 y hy e
          · exact HGa.out.2.2.2.2 y hm hy)
        have hC3a := HMC.out (.slice yaa yla yca) t.C fca q1a V2a hCCa HGa.out.2.2.2.1 hq10a (by have := HCNa.out; omega) (by have := HLEa.out.2; omega)
        have HWr4a : Hid (Wrote (g :: fea) wr V2a) := hWr4a
        have HHFa : Hid (V2a.heap[g]? = _) := hhFa
        clear hCCa hWr4a hw2a hhFa
        go_wp2_with fail
        refine hC3a.mono ?_
        clear hC3a t4a
        rintro e V3a ⟨q2a, rfl, hq20a, hq21a, hw3a⟩
        have hh3a := (hw3a.block g (lt_row HHFa.out) (fun hm => HGa.out.2.1 g hm rfl)).trans HHFa.out
        have hWr5a : Wrote (g :: (fea ++ fca)) wr V3a := (HWr4a.out.mono fun y hy => in_ab hy).trans (hw3a.mono fun y hy => List.mem_cons_of_mem _ (List.mem_append_right _ hy))
        have HH3a : Hid (V3a.heap[g]? = some (.cells (((cur.setIfInBounds (j * 5) (.int .i64 q)).setIfInBounds (j * 5 + 1) (.int .i64 (q + 1))).setIfInBounds (j * 5 + 2) (.string (mt (q + 1 + 1)))) 27 (0, 0))) := hh3a
        have HWr5a : Hid (Wrote (g :: (fea ++ fca)) wr V3a) := hWr5a
        clear hh3a hWr5a hw3a
        have HRS : Hid (RestRow 5 (ExO (d + 1)) xs (j + 1) V3a _ fps) := rest_step (cur3 := ((cur.setIfInBounds (j * 5) (.int .i64 q)).setIfInBounds (j * 5 + 1) (.int .i64 (q + 1))).setIfInBounds (j * 5 + 2) (.string (mt (q + 1 + 1)))) (ExO.lasts (d + 1)) (ExO.lt (d + 1)) HHf.out HF.out HND.out HWr5a.out (fun m hm => by rw [Array.getElem?_setIfInBounds_ne (by omega), Array.getElem?_setIfInBounds_ne (by omega), Array.getElem?_setIfInBounds_ne (by omega)])
        have HWF : Hid (Wrote (g :: fps.flatten) w V3a) := HWR.out.trans (HWr5a.out.mono fun y hy => by
          rcases List.mem_cons.1 hy with rfl | hy
          · exact List.mem_cons_self ..
          · exact List.mem_cons_of_mem _ (List.mem_flatten.2 ⟨_, List.mem_of_getElem? HF.out, hy⟩))
        have HQ2 : Hid (0 ≤ q2a ∧ q2a ≤ k + (sumP CC xs (j + 1) : Nat)) := by
          have h7 := sumP_succ CC xs j t HT.out
          have h10 : CC t = 3 + ((t.E.map fun x => 3 + ckX d x).sum + (t.C.map fun c => 6 + ckX d c.1 + ckX d c.2).sum) := by rw [HCC.out]; rfl
          exact ⟨hq20a, by omega⟩
        clear hq20a hq21a hq10a hq11a
        go_wp2
        go_roundw
        case rel => exact ⟨j + 1, _, q2a, by omega, by go_num, rfl, HQ2.out.1, HQ2.out.2, HH3a.out, HRS, HWF⟩
        case measure => simp [intOf]; omega
      · have HF : Hid (q ≤ k + ((xs.map CC).sum : Nat)) := by have := sumP_le CC xs j; show _ ≤ _; omega
        clear hh HHf
        go_wp2
        go_ret
        exact ⟨q, rfl, hq0, HF.out, HWR.out⟩

end Go.Proofs.Ytpokheklplcamaa

/- The law's own marks on lists of clauses: the walk. -/
namespace Go.Proofs.Ytpokheklplcamaa
open Go.RowKit
set_option linter.unusedVariables false

set_option maxRecDepth 100000 in
set_option maxHeartbeats 4000000 in
theorem markClauseS_of (d : Nat) (HE : MkL 50 5 27 (ExO d) (fun x => 3 + ckX d x)) (HC : MkL 51 10 33 (ClO (ExO d)) (fun c => 6 + ckX d c.1 + ckX d c.2)) : MkL 51 10 33 (ClO (ExO (d + 1))) (fun c => 6 + ckX (d + 1) c.1 + ckX (d + 1) c.2) := by
  intro v xs fp k w hown hnd h0 h1 hln
  obtain ⟨CC, hCC⟩ : ∃ CC : (Ex (d + 1) × Ex (d + 1)) → Nat, CC = (fun c => 6 + ckX (d + 1) c.1 + ckX (d + 1) c.2) := ⟨_, rfl⟩
  rw [← hCC] at h1 ⊢
  have HCC : Hid (CC = (fun c => 6 + ckX (d + 1) c.1 + ckX (d + 1) c.2)) := hCC
  clear hCC
  rcases hown with ⟨rfl, rfl, a, c, rfl⟩ | ⟨g, c, cur0, fps, rfl, hh0, hfl, rfl, hel⟩
  · go_enter Try.func51, Try.ntmps51
    go_wp2
    refine wp_loop_rounds 1 ?_
    rw [rounds_succ]
    go_wp2
    go_ret
    exact ⟨k, rfl, h0, by simp, Wrote.refl _ _⟩
  · have HME : Hid (MkL 50 5 27 (ExO d) (fun x => 3 + ckX d x)) := HE
    have HMC : Hid (MkL 51 10 33 (ClO (ExO d)) (fun c => 6 + ckX d c.1 + ckX d c.2)) := HC
    have HND : Hid ((g :: fps.flatten).Nodup) := hnd
    have HH0 : Hid (RestRow 10 (ClO (ExO (d + 1))) xs 0 w cur0 fps) := fun i x _ hx => hel i x hx
    have HB : Hid (k + ((xs.map CC).sum : Nat) ≤ 1099511627776) := h1
    obtain ⟨len, hl⟩ : ∃ len, xs.length = len := ⟨_, rfl⟩
    have HL : Hid (xs.length = len) := hl
    rw [hl] at hln ⊢
    clear HE HC hel hl hnd hfl h1
    go_enter Try.func51, Try.ntmps51
    go_wp2_with fail
    go_loopw [1, 5] (fun x i wr => ∃ (j : Nat) (cur : Array Value) (q : Int), j ≤ len ∧ i = .int .i64 j ∧ x = .int .i64 q ∧ 0 ≤ q ∧ q ≤ k + (sumP CC xs j : Nat) ∧ wr.heap[g]? = some (.cells cur 33 (0, 0)) ∧ Hid (RestRow 10 (ClO (ExO (d + 1))) xs j wr cur fps) ∧ Hid (Wrote (g :: fps.flatten) w wr)) (fun _ i _ => len - (intOf i).toNat)
    case atStart => exact ⟨0, cur0, k, Nat.zero_le _, rfl, rfl, h0, by show k ≤ k + ((0 : Nat) : Int); omega, hh0, HH0, Wrote.refl _ _⟩
    case round =>
      obtain ⟨j, cur, q, hj, rfl, rfl, hq0, hqs, hh, HHf, HWR⟩ := hrel
      have hq1 : q ≤ 1099511627776 := by have := sumP_le CC xs j; have := HB.out; omega
      clear HH0 hh0
      by_cases hjl : j < len
      · obtain ⟨t, ht⟩ : ∃ t, xs[j]? = some t := ⟨_, List.getElem?_eq_getElem (by rw [HL.out]; exact hjl)⟩
        have HT : Hid (xs[j]? = some t) := ht
        obtain ⟨vs, f, hf, hvl, hcell, hO⟩ := HHf.out j t (Nat.le_refl _) ht
        obtain ⟨pv, xv, fP, fX, rfl, rfl, hP, hX⟩ := hO
        obtain ⟨vea, vca, fea, fca, rfl, rfl, hEa, hCa⟩ := hP
        obtain ⟨veb, vcb, feb, fcb, rfl, rfl, hEb, hCb⟩ := hX
        obtain ⟨xaa, xca, rfl⟩ := (hEa.rd (ExO.reads d)).slice
        obtain ⟨yaa, yca, rfl⟩ := (hCa.rd (ClO.reads (ExO.reads d))).slice
        obtain ⟨xab, xcb, rfl⟩ := (hEb.rd (ExO.reads d)).slice
        obtain ⟨yab, ycb, rfl⟩ := (hCb.rd (ClO.reads (ExO.reads d))).slice
        obtain ⟨tP, tX⟩ := t
        obtain ⟨xla, hxla⟩ : ∃ l, tP.E.length = l := ⟨_, rfl⟩
        obtain ⟨yla, hyla⟩ : ∃ l, tP.C.length = l := ⟨_, rfl⟩
        obtain ⟨xlb, hxlb⟩ : ∃ l, tX.E.length = l := ⟨_, rfl⟩
        obtain ⟨ylb, hylb⟩ : ∃ l, tX.C.length = l := ⟨_, rfl⟩
        have hEa' : OwnRow 5 27 (ExO d) wr (.slice xaa xla xca) tP.E fea := by rw [← hxla]; exact hEa
        have hCa' : OwnRow 10 33 (ClO (ExO d)) wr (.slice yaa yla yca) tP.C fca := by rw [← hyla]; exact hCa
        have hEb' : OwnRow 5 27 (ExO d) wr (.slice xab xlb xcb) tX.E feb := by rw [← hxlb]; exact hEb
        have hCb' : OwnRow 10 33 (ClO (ExO d)) wr (.slice yab ylb ycb) tX.C fcb := by rw [← hylb]; exact hCb
        have kaa : cur[j * 10]? = some (.int .i64 tP.K) := hcell 0 _ rfl
        have kba : cur[j * 10 + 1]? = some (.int .i64 tP.N) := hcell 1 _ rfl
        have kca : cur[j * 10 + 3]? = some (.slice xaa xla xca) := by rw [← hxla]; exact hcell 3 _ rfl
        have kda : cur[j * 10 + 4]? = some (.slice yaa yla yca) := by rw [← hyla]; exact hcell 4 _ rfl
        have hka : cur[j * 10 + 5]? = some (.int .i64 tX.K) := hcell 5 _ rfl
        have hkb : cur[j * 10 + 6]? = some (.int .i64 tX.N) := hcell 6 _ rfl
        have hkc : cur[j * 10 + 8]? = some (.slice xab xlb xcb) := by rw [← hxlb]; exact hcell 8 _ rfl
        have hkd : cur[j * 10 + 9]? = some (.slice yab ylb ycb) := by rw [← hylb]; exact hcell 9 _ rfl
        have HKX : Hid (cur[j * 10 + 5]? = some (.int .i64 tX.K) ∧ cur[j * 10 + 6]? = some (.int .i64 tX.N) ∧ cur[j * 10 + 8]? = some (.slice xab xlb xcb) ∧ cur[j * 10 + 9]? = some (.slice yab ylb ycb)) := ⟨hka, hkb, hkc, hkd⟩
        have hfn : ((fea ++ fca) ++ (feb ++ fcb)).Nodup := (nodup_fl fps (List.nodup_cons.1 HND.out).2).1 _ (List.mem_of_getElem? hf)
        have hgf : g ∉ (fea ++ fca) ++ (feb ++ fcb) := fun hm => (List.nodup_cons.1 HND.out).1 (List.mem_flatten.2 ⟨_, List.mem_of_getElem? hf, hm⟩)
        have hff := List.nodup_append.1 hfn
        have hfa := List.nodup_append.1 hff.1
        have hfb := List.nodup_append.1 hff.2.1
        have HEa : Hid (OwnRow 5 27 (ExO d) wr (.slice xaa xla xca) tP.E fea) := hEa'
        have HCa : Hid (OwnRow 10 33 (ClO (ExO d)) wr (.slice yaa yla yca) tP.C fca) := hCa'
        have HGa : Hid ((∀ y ∈ fea, y ≠ g) ∧ (∀ y ∈ fca, y ≠ g) ∧ fea.Nodup ∧ fca.Nodup ∧ ∀ y ∈ fea, y ∉ fca) := ⟨fun y hy e => hgf (e ▸ List.mem_append_left _ (List.mem_append_left _ hy)), fun y hy e => hgf (e ▸ List.mem_append_left _ (List.mem_append_right _ hy)), hfa.1, hfa.2.1, fun y hy hy2 => hfa.2.2 y hy y hy2 rfl⟩
        have HGb : Hid ((∀ y ∈ feb, y ≠ g) ∧ (∀ y ∈ fcb, y ≠ g) ∧ feb.Nodup ∧ fcb.Nodup ∧ ∀ y ∈ feb, y ∉ fcb) := ⟨fun y hy e => hgf (e ▸ List.mem_append_right _ (List.mem_append_left _ hy)), fun y hy e => hgf (e ▸ List.mem_append_right _ (List.mem_append_right _ hy)), hfb.1, hfb.2.1, fun y hy hy2 => hfb.2.2 y hy y hy2 rfl⟩
        have HXF : Hid (∀ V : World, Wrote (g :: (fea ++ fca)) wr V → OwnRow 5 27 (ExO d) V (.slice xab xlb xcb) tX.E feb ∧ OwnRow 10 33 (ClO (ExO d)) V (.slice yab ylb ycb) tX.C fcb) := fun V hV =>
          ⟨hEb'.frame (ExO.lasts d) fun y hy => hV.block y (hEb'.lt (ExO.lt d) y hy) (fun hm => by
            rcases List.mem_cons.1 hm with e | hm
            · exact HGb.out.1 y hy e
            · exact hff.2.2 y hm y (List.mem_append_left _ hy) rfl), hCb'.frame (ClO.lasts (ExO.lasts d)) fun y hy => hV.block y (hCb'.lt (ClO.lt (ExO.lt d)) y hy) (fun hm => by
            rcases List.mem_cons.1 hm with e | hm
            · exact HGb.out.2.1 y hy e
            · exact hff.2.2 y hm y (List.mem_append_right _ hy) rfl)⟩
        have HSUM : Hid (q + 3 + ((tP.E.map fun x => 3 + ckX d x).sum : Nat) + ((tP.C.map fun c => 6 + ckX d c.1 + ckX d c.2).sum : Nat) + 3 + ((tX.E.map fun x => 3 + ckX d x).sum : Nat) + ((tX.C.map fun c => 6 + ckX d c.1 + ckX d c.2).sum : Nat) ≤ k + (sumP CC xs (j + 1) : Nat) ∧ k + (sumP CC xs (j + 1) : Nat) ≤ 1099511627776) := by
          have h7 := sumP_succ CC xs j (tP, tX) ht
          have h8 := sumP_le CC xs (j + 1)
          have h9 := HB.out
          have h10 : CC (tP, tX) = 6 + ((tP.E.map fun x => 3 + ckX d x).sum + (tP.C.map fun c => 6 + ckX d c.1 + ckX d c.2).sum) + ((tX.E.map fun x => 3 + ckX d x).sum + (tX.C.map fun c => 6 + ckX d c.1 + ckX d c.2).sum) := by rw [HCC.out]; rfl
          exact ⟨by omega, by omega⟩
        have HCNa : Hid (q + 3 + ((tP.E.map fun x => 3 + ckX d x).sum : Nat) + ((tP.C.map fun c => 6 + ckX d c.1 + ckX d c.2).sum : Nat) ≤ 1099511627776) := by have := HSUM.out; show _ ≤ _; omega
        have HLEN : Hid ((tP.E.length ≤ 1099511627776 ∧ tP.C.length ≤ 1099511627776) ∧ tX.E.length ≤ 1099511627776 ∧ tX.C.length ≤ 1099511627776) := by
          have l1 := len_sum (fun x : Ex d => 3 + ckX d x) tP.E (fun x => by omega)
          have l2 := len_sum (fun c : Ex d × Ex d => 6 + ckX d c.1 + ckX d c.2) tP.C (fun x => by omega)
          have l3 := len_sum (fun x : Ex d => 3 + ckX d x) tX.E (fun x => by omega)
          have l4 := len_sum (fun c : Ex d × Ex d => 6 + ckX d c.1 + ckX d c.2) tX.C (fun x => by omega)
          have := HSUM.out
          exact ⟨⟨by omega, by omega⟩, by omega, by omega⟩
        have HLEa : Hid (tP.E.length ≤ 1099511627776 ∧ tP.C.length ≤ 1099511627776) := HLEN.out.1
        have HLEb : Hid (tX.E.length ≤ 1099511627776 ∧ tX.C.length ≤ 1099511627776) := HLEN.out.2
        have HF : Hid (fps[j]? = some ((fea ++ fca) ++ (feb ++ fcb))) := hf
        clear hEa hCa hEb hCb hEa' hCa' hEb' hCb' hfn hgf hff hfa hfb hf hcell hka hkb hkc hkd
        have hsza : j * 10 + 4 < cur.size := (Array.getElem?_eq_some_iff.1 kda).1
        have hgsa : g < wr.heap.size := lt_row hh
        have saa : wr.cell? ⟨g, j * 10, none⟩ = some (.int .i64 tP.K) := by rw [cell_of_row wr _ _ _ _ _ hh]; exact kaa
        have sba : wr.cell? ⟨g, j * 10 + 1, none⟩ = some (.int .i64 tP.N) := by rw [cell_of_row wr _ _ _ _ _ hh]; exact kba
        have zaa : wr.frozen? ⟨g, j * 10, none⟩ = false := frozen_of_row wr _ _ _ _ hh
        have zba : wr.frozen? ⟨g, j * 10 + 1, none⟩ = false := frozen_of_row wr _ _ _ _ hh
        have hA1a := heap_setCell_same wr g (j * 10) cur 33 (.int .i64 q) hh
        have hA2a := heap_setCell_same _ g (j * 10 + 1) _ 33 (.int .i64 (q + 1)) hA1a
        obtain ⟨W2a, hW2a⟩ : ∃ W2, W2 = (wr.setCell ⟨g, j * 10, none⟩ (.int .i64 q)).setCell ⟨g, j * 10 + 1, none⟩ (.int .i64 (q + 1)) := ⟨_, rfl⟩
        have hWr2a : Wrote [g] wr W2a := by rw [hW2a]; exact (Wrote.of_set wr g (j * 10) _).trans (Wrote.of_set _ g (j * 10 + 1) _)
        rw [← hW2a] at hA2a
        have hCta := markText_any (q + 1 + 1) W2a (by omega) (by have := HCNa.out; omega)
        rw [hW2a] at hCta
        have HW2a : Hid (W2a = _) := hW2a
        have HA2a : Hid (W2a.heap[g]? = some (.cells ((cur.setIfInBounds (j * 10) (.int .i64 q)).setIfInBounds (j * 10 + 1) (.int .i64 (q + 1))) 33 (0, 0))) := hA2a
        have HWr2a : Hid (Wrote [g] wr W2a) := hWr2a
        have HKa : Hid (cur[j * 10 + 3]? = some (.slice xaa xla xca) ∧ cur[j * 10 + 4]? = some (.slice yaa yla yca)) := ⟨kca, kda⟩
        clear hA1a hA2a hW2a hWr2a
        go_wp2_with fail
        refine hCta.mono ?_
        clear hCta saa sba zaa zba
        rintro e Va ⟨rfl, hBVa⟩
        rw [← HW2a.out] at hBVa
        have hhVa := (hBVa.block g (lt_row HA2a.out)).trans HA2a.out
        obtain ⟨v2a, t2a⟩ : ∃ v, Va.cell? ⟨g, j * 10 + 2, none⟩ = some v := by rw [cell_of_row Va _ _ _ _ _ hhVa]; exact ⟨_, Array.getElem?_eq_getElem (by simp; omega)⟩
        have t3a : Va.cell? ⟨g, j * 10 + 3, none⟩ = some (.slice xaa xla xca) := by
          rw [cell_of_row Va _ _ _ _ _ hhVa, Array.getElem?_setIfInBounds_ne (by omega), Array.getElem?_setIfInBounds_ne (by omega)]; exact HKa.out.1
        have zza : Va.frozen? ⟨g, j * 10 + 2, none⟩ = false := frozen_of_row Va _ _ _ _ hhVa
        have hA3a := heap_setCell_same Va g (j * 10 + 2) _ 33 (.string (mt (q + 1 + 1))) hhVa
        obtain ⟨W3a, hW3a⟩ : ∃ W3, W3 = Va.setCell ⟨g, j * 10 + 2, none⟩ (.string (mt (q + 1 + 1))) := ⟨_, rfl⟩
        have hWr3a : Wrote [g] wr W3a := (HWr2a.out.trans (Wrote.of_below hBVa)).trans (by rw [hW3a]; exact Wrote.of_set Va g (j * 10 + 2) _)
        rw [← hW3a] at hA3a
        have hE3a := HEa.out.frame (w' := W3a) (ExO.lasts d) fun y hy => hWr3a.block y (HEa.out.lt (ExO.lt d) y hy) (fun hm => HGa.out.1 y hy (by simpa using hm))
        have hC2a := HME.out (.slice xaa xla xca) tP.E fea (q + 1 + 1 + 1) W3a hE3a HGa.out.2.2.1 (by omega) (by have := HCNa.out; omega) (by have := HLEa.out.1; omega)
        have HW3a : Hid (W3a = _) := hW3a
        have HA3a : Hid (W3a.heap[g]? = some (.cells (((cur.setIfInBounds (j * 10) (.int .i64 q)).setIfInBounds (j * 10 + 1) (.int .i64 (q + 1))).setIfInBounds (j * 10 + 2) (.string (mt (q + 1 + 1)))) 33 (0, 0))) := hA3a
        have HWr3a : Hid (Wrote [g] wr W3a) := hWr3a
        rw [hW3a] at hC2a
        clear hW3a hA3a hE3a hWr3a hBVa hhVa
        go_wp2_with fail
        refine hC2a.mono ?_
        clear hC2a t2a t3a zza
        rintro e V2a ⟨q1a, rfl, hq10a, hq11a, hw2a⟩
        rw [← HW3a.out] at hw2a
        have hhFa := (hw2a.block g (lt_row HA3a.out) (fun hm => HGa.out.1 g hm rfl)).trans HA3a.out
        have hWr4a : Wrote (g :: fea) wr V2a := (HWr3a.out.mono fun y hy => by simp at hy; simp [hy]).trans (hw2a.mono fun y hy => List.mem_cons_of_mem _ hy)
        have t4a : V2a.cell? ⟨g, j * 10 + 4, none⟩ = some (.slice yaa yla yca) := by
          rw [cell_of_row V2a _ _ _ _ _ hhFa, Array.getElem?_setIfInBounds_ne (by omega), Array.getElem?_setIfInBounds_ne (by omega), Array.getElem?_setIfInBounds_ne (by omega)]; exact HKa.out.2
        have hCCa := HCa.out.frame (w' := V2a) (ClO.lasts (ExO.lasts d)) fun y hy => hWr4a.block y (HCa.out.lt (ClO.lt (ExO.lt d)) y hy) (fun hm => by
          rcases List.mem_cons.1 hm with e | hm
          · exact HGa.out.2.1 y hy e
          · exact HGa.out.2.2.2.2 y hm hy)
        have hC3a := HMC.out (.slice yaa yla yca) tP.C fca q1a V2a hCCa HGa.out.2.2.2.1 hq10a (by have := HCNa.out; omega) (by have := HLEa.out.2; omega)
        have HWr4a : Hid (Wrote (g :: fea) wr V2a) := hWr4a
        have HHFa : Hid (V2a.heap[g]? = _) := hhFa
        clear hCCa hWr4a hw2a hhFa
        go_wp2_with fail
        refine hC3a.mono ?_
        clear hC3a t4a
        rintro e V3a ⟨q2a, rfl, hq20a, hq21a, hw3a⟩
        have hh3a := (hw3a.block g (lt_row HHFa.out) (fun hm => HGa.out.2.1 g hm rfl)).trans HHFa.out
        have hWr5a : Wrote (g :: (fea ++ fca)) wr V3a := (HWr4a.out.mono fun y hy => in_ab hy).trans (hw3a.mono fun y hy => List.mem_cons_of_mem _ (List.mem_append_right _ hy))
        have HH3a : Hid (V3a.heap[g]? = some (.cells (((cur.setIfInBounds (j * 10) (.int .i64 q)).setIfInBounds (j * 10 + 1) (.int .i64 (q + 1))).setIfInBounds (j * 10 + 2) (.string (mt (q + 1 + 1)))) 33 (0, 0))) := hh3a
        have HWr5a : Hid (Wrote (g :: (fea ++ fca)) wr V3a) := hWr5a
        clear hh3a hWr5a hw3a
        have hhb := HH3a.out
        obtain ⟨curb, hcb⟩ : ∃ c, c = ((cur.setIfInBounds (j * 10) (.int .i64 q)).setIfInBounds (j * 10 + 1) (.int .i64 (q + 1))).setIfInBounds (j * 10 + 2) (.string (mt (q + 1 + 1))) := ⟨_, rfl⟩
        rw [← hcb] at hhb
        have hcx : ∀ m, j * 10 + 2 < m ∨ m < j * 10 → curb[m]? = cur[m]? := fun m hm => by rw [hcb, Array.getElem?_setIfInBounds_ne (by omega), Array.getElem?_setIfInBounds_ne (by omega), Array.getElem?_setIfInBounds_ne (by omega)]
        have HCX : Hid (∀ m, j * 10 + 2 < m ∨ m < j * 10 → curb[m]? = cur[m]?) := hcx
        have kab : curb[j * 10 + 5]? = some (.int .i64 tX.K) := (hcx _ (by omega)).trans HKX.out.1
        have kbb : curb[j * 10 + 6]? = some (.int .i64 tX.N) := (hcx _ (by omega)).trans HKX.out.2.1
        have kcb : curb[j * 10 + 8]? = some (.slice xab xlb xcb) := (hcx _ (by omega)).trans HKX.out.2.2.1
        have kdb : curb[j * 10 + 9]? = some (.slice yab ylb ycb) := (hcx _ (by omega)).trans HKX.out.2.2.2
        have HEb : Hid (OwnRow 5 27 (ExO d) V3a (.slice xab xlb xcb) tX.E feb) := (HXF.out V3a HWr5a.out).1
        have HCb : Hid (OwnRow 10 33 (ClO (ExO d)) V3a (.slice yab ylb ycb) tX.C fcb) := (HXF.out V3a HWr5a.out).2
        have HCNb : Hid (q2a + 3 + ((tX.E.map fun x => 3 + ckX d x).sum : Nat) + ((tX.C.map fun c => 6 + ckX d c.1 + ckX d c.2).sum : Nat) ≤ k + (sumP CC xs (j + 1) : Nat) ∧ k + (sumP CC xs (j + 1) : Nat) ≤ 1099511627776) := by have := HSUM.out; exact ⟨by omega, by omega⟩
        have hq2b : q2a ≤ 1099511627776 := by have := HCNb.out; omega
        clear hq10a hq11a hq21a hcx hcb
        have hszb : j * 10 + 9 < curb.size := (Array.getElem?_eq_some_iff.1 kdb).1
        have hgsb : g < V3a.heap.size := lt_row hhb
        have sab : V3a.cell? ⟨g, j * 10 + 5, none⟩ = some (.int .i64 tX.K) := by rw [cell_of_row V3a _ _ _ _ _ hhb]; exact kab
        have sbb : V3a.cell? ⟨g, j * 10 + 6, none⟩ = some (.int .i64 tX.N) := by rw [cell_of_row V3a _ _ _ _ _ hhb]; exact kbb
        have zab : V3a.frozen? ⟨g, j * 10 + 5, none⟩ = false := frozen_of_row V3a _ _ _ _ hhb
        have zbb : V3a.frozen? ⟨g, j * 10 + 6, none⟩ = false := frozen_of_row V3a _ _ _ _ hhb
        have hA1b := heap_setCell_same V3a g (j * 10 + 5) curb 33 (.int .i64 q2a) hhb
        have hA2b := heap_setCell_same _ g (j * 10 + 6) _ 33 (.int .i64 (q2a + 1)) hA1b
        obtain ⟨W2b, hW2b⟩ : ∃ W2, W2 = (V3a.setCell ⟨g, j * 10 + 5, none⟩ (.int .i64 q2a)).setCell ⟨g, j * 10 + 6, none⟩ (.int .i64 (q2a + 1)) := ⟨_, rfl⟩
        have hWr2b : Wrote [g] V3a W2b := by rw [hW2b]; exact (Wrote.of_set V3a g (j * 10 + 5) _).trans (Wrote.of_set _ g (j * 10 + 6) _)
        rw [← hW2b] at hA2b
        have hCtb := markText_any (q2a + 1 + 1) W2b (by omega) (by have := HCNb.out; omega)
        rw [hW2b] at hCtb
        have HW2b : Hid (W2b = _) := hW2b
        have HA2b : Hid (W2b.heap[g]? = some (.cells ((curb.setIfInBounds (j * 10 + 5) (.int .i64 q2a)).setIfInBounds (j * 10 + 6) (.int .i64 (q2a + 1))) 33 (0, 0))) := hA2b
        have HWr2b : Hid (Wrote [g] V3a W2b) := hWr2b
        have HKb : Hid (curb[j * 10 + 8]? = some (.slice xab xlb xcb) ∧ curb[j * 10 + 9]? = some (.slice yab ylb ycb)) := ⟨kcb, kdb⟩
        clear hA1b hA2b hW2b hWr2b
        go_wp2_with fail
        refine hCtb.mono ?_
        clear hCtb sab sbb zab zbb
        rintro e Vb ⟨rfl, hBVb⟩
        rw [← HW2b.out] at hBVb
        have hhVb := (hBVb.block g (lt_row HA2b.out)).trans HA2b.out
        obtain ⟨v2b, t2b⟩ : ∃ v, Vb.cell? ⟨g, j * 10 + 7, none⟩ = some v := by rw [cell_of_row Vb _ _ _ _ _ hhVb]; exact ⟨_, Array.getElem?_eq_getElem (by simp; omega)⟩
        have t3b : Vb.cell? ⟨g, j * 10 + 8, none⟩ = some (.slice xab xlb xcb) := by
          rw [cell_of_row Vb _ _ _ _ _ hhVb, Array.getElem?_setIfInBounds_ne (by omega), Array.getElem?_setIfInBounds_ne (by omega)]; exact HKb.out.1
        have zzb : Vb.frozen? ⟨g, j * 10 + 7, none⟩ = false := frozen_of_row Vb _ _ _ _ hhVb
        have hA3b := heap_setCell_same Vb g (j * 10 + 7) _ 33 (.string (mt (q2a + 1 + 1))) hhVb
        obtain ⟨W3b, hW3b⟩ : ∃ W3, W3 = Vb.setCell ⟨g, j * 10 + 7, none⟩ (.string (mt (q2a + 1 + 1))) := ⟨_, rfl⟩
        have hWr3b : Wrote [g] V3a W3b := (HWr2b.out.trans (Wrote.of_below hBVb)).trans (by rw [hW3b]; exact Wrote.of_set Vb g (j * 10 + 7) _)
        rw [← hW3b] at hA3b
        have hE3b := HEb.out.frame (w' := W3b) (ExO.lasts d) fun y hy => hWr3b.block y (HEb.out.lt (ExO.lt d) y hy) (fun hm => HGb.out.1 y hy (by simpa using hm))
        have hC2b := HME.out (.slice xab xlb xcb) tX.E feb (q2a + 1 + 1 + 1) W3b hE3b HGb.out.2.2.1 (by omega) (by have := HCNb.out; omega) (by have := HLEb.out.1; omega)
        have HW3b : Hid (W3b = _) := hW3b
        have HA3b : Hid (W3b.heap[g]? = some (.cells (((curb.setIfInBounds (j * 10 + 5) (.int .i64 q2a)).setIfInBounds (j * 10 + 6) (.int .i64 (q2a + 1))).setIfInBounds (j * 10 + 7) (.string (mt (q2a + 1 + 1)))) 33 (0, 0))) := hA3b
        have HWr3b : Hid (Wrote [g] V3a W3b) := hWr3b
        rw [hW3b] at hC2b
        clear hW3b hA3b hE3b hWr3b hBVb hhVb
        go_wp2_with fail
        refine hC2b.mono ?_
        clear hC2b t2b t3b zzb
        rintro e V2b ⟨q1b, rfl, hq10b, hq11b, hw2b⟩
        rw [← HW3b.out] at hw2b
        have hhFb := (hw2b.block g (lt_row HA3b.out) (fun hm => HGb.out.1 g hm rfl)).trans HA3b.out
        have hWr4b : Wrote (g :: feb) V3a V2b := (HWr3b.out.mono fun y hy => by simp at hy; simp [hy]).trans (hw2b.mono fun y hy => List.mem_cons_of_mem _ hy)
        have t4b : V2b.cell? ⟨g, j * 10 + 9, none⟩ = some (.slice yab ylb ycb) := by
          rw [cell_of_row V2b _ _ _ _ _ hhFb, Array.getElem?_setIfInBounds_ne (by omega), Array.getElem?_setIfInBounds_ne (by omega), Array.getElem?_setIfInBounds_ne (by omega)]; exact HKb.out.2
        have hCCb := HCb.out.frame (w' := V2b) (ClO.lasts (ExO.lasts d)) fun y hy => hWr4b.block y (HCb.out.lt (ClO.lt (ExO.lt d)) y hy) (fun hm => by
          rcases List.mem_cons.1 hm with e | hm
          · exact HGb.out.2.1 y hy e
          · exact HGb.out.2.2.2.2 y hm hy)
        have hC3b := HMC.out (.slice yab ylb ycb) tX.C fcb q1b V2b hCCb HGb.out.2.2.2.1 hq10b (by have := HCNb.out; omega) (by have := HLEb.out.2; omega)
        have HWr4b : Hid (Wrote (g :: feb) V3a V2b) := hWr4b
        have HHFb : Hid (V2b.heap[g]? = _) := hhFb
        clear hCCb hWr4b hw2b hhFb
        go_wp2_with fail
        refine hC3b.mono ?_
        clear hC3b t4b
        rintro e V3b ⟨q2b, rfl, hq20b, hq21b, hw3b⟩
        have hh3b := (hw3b.block g (lt_row HHFb.out) (fun hm => HGb.out.2.1 g hm rfl)).trans HHFb.out
        have hWr5b : Wrote (g :: (feb ++ fcb)) V3a V3b := (HWr4b.out.mono fun y hy => in_ab hy).trans (hw3b.mono fun y hy => List.mem_cons_of_mem _ (List.mem_append_right _ hy))
        have HH3b : Hid (V3b.heap[g]? = some (.cells (((curb.setIfInBounds (j * 10 + 5) (.int .i64 q2a)).setIfInBounds (j * 10 + 6) (.int .i64 (q2a + 1))).setIfInBounds (j * 10 + 7) (.string (mt (q2a + 1 + 1)))) 33 (0, 0))) := hh3b
        have HWr5b : Hid (Wrote (g :: (feb ++ fcb)) V3a V3b) := hWr5b
        clear hh3b hWr5b hw3b
        have HWR6 : Hid (Wrote (g :: ((fea ++ fca) ++ (feb ++ fcb))) wr V3b) := (HWr5a.out.mono fun y hy => in_ab hy).trans (HWr5b.out.mono fun y hy => in_ac hy)
        have HRS : Hid (RestRow 10 (ClO (ExO (d + 1))) xs (j + 1) V3b _ fps) := rest_step (cur3 := ((curb.setIfInBounds (j * 10 + 5) (.int .i64 q2a)).setIfInBounds (j * 10 + 6) (.int .i64 (q2a + 1))).setIfInBounds (j * 10 + 7) (.string (mt (q2a + 1 + 1)))) (ClO.lasts (ExO.lasts (d + 1))) (ClO.lt (ExO.lt (d + 1))) HHf.out HF.out HND.out HWR6.out (fun m hm => by rw [Array.getElem?_setIfInBounds_ne (by omega), Array.getElem?_setIfInBounds_ne (by omega), Array.getElem?_setIfInBounds_ne (by omega)]; exact HCX.out m (by omega))
        have HWF : Hid (Wrote (g :: fps.flatten) w V3b) := HWR.out.trans (HWR6.out.mono fun y hy => by
          rcases List.mem_cons.1 hy with rfl | hy
          · exact List.mem_cons_self ..
          · exact List.mem_cons_of_mem _ (List.mem_flatten.2 ⟨_, List.mem_of_getElem? HF.out, hy⟩))
        have HQ2 : Hid (0 ≤ q2b ∧ q2b ≤ k + (sumP CC xs (j + 1) : Nat)) := by
          have := HCNb.out
          exact ⟨hq20b, by omega⟩
        clear hq20b hq21b hq10b hq11b
        go_wp2
        go_roundw
        case rel => exact ⟨j + 1, _, q2b, by omega, by go_num, rfl, HQ2.out.1, HQ2.out.2, HH3b.out, HRS, HWF⟩
        case measure => simp [intOf]; omega
      · have HF : Hid (q ≤ k + ((xs.map CC).sum : Nat)) := by have := sumP_le CC xs j; show _ ≤ _; omega
        clear hh HHf
        go_wp2
        go_ret
        exact ⟨q, rfl, hq0, HF.out, HWR.out⟩

end Go.Proofs.Ytpokheklplcamaa
