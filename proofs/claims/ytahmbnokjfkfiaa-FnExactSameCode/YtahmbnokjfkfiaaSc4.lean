/- The program's sameFns, whole. -/
import Derived.Test.YtahmbnokjfkfiaaSc3
import Derived.Shelf.Abstract
namespace Go.Proofs.Ytahmbnokjfkfiaa
open Go.RowKit
set_option linter.unusedVariables false

theorem enters_sameFns1 : ∀ args w, (callFunc 35 args).run Try.prog w = .ok (.enter 35 args) w := enters_of Try.func35 (by kernel_rfl) rfl

theorem drop_flatG {α : Type} {xss : List (List α)} {j : Nat} {x : List α} (h : xss[j]? = some x) : (xss.drop j).flatten = x ++ (xss.drop (j + 1)).flatten := by
  have hl := (List.getElem?_eq_some_iff.1 h)
  rw [List.drop_eq_getElem_cons hl.1, List.flatten_cons, hl.2]
theorem drop_sumG {α : Type} {f : α → Nat} {xs : List α} {j : Nat} {x : α} (h : xs[j]? = some x) : ((xs.drop j).map f).sum = f x + ((xs.drop (j + 1)).map f).sum := by
  have hl := (List.getElem?_eq_some_iff.1 h)
  rw [List.drop_eq_getElem_cons hl.1, List.map_cons, List.sum_cons, hl.2]

/-- How the two rows of Fns stand at the j-th. -/
def FsAt (TT : TypeId) (W : World) (p : Nat) (tv : Value) (fs : List Tg) (xs ys : List DFn) (fps gps : List (List Nat)) (j : Nat) (w : World) : Prop :=
  ∃ met nu pv uv f, Sv 80 TT W w p met nu pv uv tv f fs [] ∧ Lq W p met nu f ((fps.drop j).flatten ++ (gps.drop j).flatten) ∧ met ≤ j ∧ xs.take j = ys.take j

def EqPost (W : World) (p : Nat) (Q : Prop) (r : Bool) (w' : World) : Prop := (r = true ↔ Q) ∧ Kept p (p + 1) W w'

set_option maxRecDepth 100000 in
set_option maxHeartbeats 4000000 in
theorem equalFn_any {TT : TypeId} (W w : World) (p q : Nat) (pv uv tv : Value) (f : Addr → Int → Option Value) (fs : List Tg) (v1 v2 : Value) (xs ys : List DFn) (f1 f2 : List Nat) (h : Sv 80 TT W w p 0 0 pv uv tv f fs []) (hq : W.heap[q]? = some (.cells #[.pointer (some ⟨p, 0, none⟩)] 76 (0, 0))) (hqp : q ≠ p) (hpr : ∃ o, W.heap[p]? = some (.cells o 80 (0, 0))) (o1 : OwnRow 4 56 FnO W v1 xs f1) (o2 : OwnRow 4 56 FnO W v2 ys f2) (hL : Lq W p 0 0 f (f1 ++ f2)) (z1 : szRow szFnD xs ≤ 1048576) (z2 : szRow szFnD ys ≤ 1048576) :
    Calls Try.prog 34 #[v1, v2, .func (.func 35) #[] #[.pointer (some ⟨q, 0, none⟩)]] w fun e w' => ∃ r, e = .returned (.bool r) ∧ Hid (EqPost W p (xs = ys) r w') := by
  have n1 : xs.length ≤ szRow szFnD xs := Nat.le_add_right _ _
  have n2 : ys.length ≤ szRow szFnD ys := Nat.le_add_right _ _
  by_cases hl : xs.length = ys.length
  case neg =>
    obtain ⟨a3, c3, rfl⟩ := own_lenG o1
    obtain ⟨b3, d3, rfl⟩ := own_lenG o2
    have hne : ((xs.length : Int) != (ys.length : Int)) = true := by simp; omega
    have HF : Hid (¬ xs = ys ∧ Kept p (p + 1) W w) := ⟨fun e => hl (by rw [e]), h.kept⟩
    have m1 : xs.length ≤ 1048576 := by omega
    have m2 : ys.length ≤ 1048576 := by omega
    obtain ⟨l1, hl1⟩ : ∃ l, xs.length = l := ⟨_, rfl⟩
    obtain ⟨l2, hl2⟩ : ∃ l, ys.length = l := ⟨_, rfl⟩
    rw [hl1] at hne m1 ⊢
    rw [hl2] at hne m2 ⊢
    clear h hq hqp hpr o1 o2 hL z1 z2 n1 n2 hl hl1 hl2
    go_enter Try.func34, Try.ntmps34
    go_wp2_with fail
    go_ret
    exact ⟨false, rfl, ⟨fun e => (by cases e), fun e => absurd e HF.out.1⟩, HF.out.2⟩
  by_cases h0 : xs.length = 0
  · obtain ⟨a3, c3, rfl⟩ := own_noneG o1 h0
    obtain ⟨b3, d3, rfl⟩ := own_noneG o2 (by omega)
    have HF : Hid (xs = ys ∧ Kept p (p + 1) W w) := ⟨by rw [List.length_eq_zero_iff.1 h0, List.length_eq_zero_iff.1 (hl.symm.trans h0)], h.kept⟩
    clear h hq hqp hpr o1 o2 hL z1 z2 n1 n2 hl h0
    go_enter Try.func34, Try.ntmps34
    go_wp2_with fail
    go_loopw [17] (fun i wr => i = .int .i64 0 ∧ Hid (wr = w)) (fun i _ => 0)
    case atStart => exact ⟨rfl, rfl⟩
    case round =>
      obtain ⟨rfl, HW⟩ := hrel
      go_wp2_with fail
      go_ret
      exact ⟨true, rfl, ⟨fun _ => HF.out.1, fun _ => rfl⟩, by rw [HW.out]; exact HF.out.2⟩
  obtain ⟨b, hb⟩ : ∃ o, W.heap[p]? = some (.cells o 80 (0, 0)) := hpr
  have hneF : ∀ (g : Nat) (cur : Array Value), W.heap[g]? = some (.cells cur 56 (0, 0)) → g ≠ p := fun g cur hg e => by
    rw [e, hb] at hg; simp only [Option.some.injEq, Obj.cells.injEq] at hg; exact absurd hg.2.1 (by decide)
  rcases o1 with ⟨e, _⟩ | ⟨ga, ca, cu, fps, q1, q2, q3, q4, q5⟩
  · rw [e] at h0; exact absurd rfl h0
  rcases o2 with ⟨e, _⟩ | ⟨gb, cb, cv, gps, r1, r2, r3, r4, r5⟩
  · rw [hl, e] at h0; exact absurd rfl h0
  subst q1 r1
  rw [← hl]
  have HST : Hid (FsAt TT W p tv fs xs ys fps gps 0 w) := ⟨0, 0, pv, uv, f, h, by
    refine hL.less (fun g => ?_)
    rw [q4, r4]
    simp only [List.drop_zero, List.count_append, List.count_cons]
    omega, Nat.le_refl _, by simp⟩
  have HX : Hid _ := q5
  have HY : Hid _ := r5
  have HG : Hid (W.heap[ga]? = some (.cells cu 56 (0, 0)) ∧ W.heap[gb]? = some (.cells cv 56 (0, 0)) ∧ ga ≠ p ∧ gb ≠ p) := ⟨q2, r2, hneF _ _ q2, hneF _ _ r2⟩
  have HZ : Hid (szRow szFnD xs ≤ 1048576 ∧ szRow szFnD ys ≤ 1048576) := ⟨z1, z2⟩
  have HQ : Hid (W.heap[q]? = some (.cells #[.pointer (some ⟨p, 0, none⟩)] 76 (0, 0)) ∧ q ≠ p) := ⟨hq, hqp⟩
  have eg := enters_sameFns1
  obtain ⟨len, hlen⟩ : ∃ l, xs.length = l := ⟨_, rfl⟩
  have HLX : Hid (xs.length = len ∧ ys.length = len) := ⟨hlen, by omega⟩
  have hl1 : len ≤ 1048576 := by omega
  rw [hlen]
  have hne : ((len : Int) != (len : Int)) = false := by simp
  clear h hq hqp hb hL z1 z2 n1 n2 hl h0 q2 q3 q4 q5 r2 r3 r4 r5 hneF hlen
  go_enter Try.func34, Try.ntmps34
  go_wp2_with fail
  go_loopw [17] (fun i wx => ∃ j : Nat, j ≤ len ∧ i = .int .i64 j ∧ Hid (FsAt TT W p tv fs xs ys fps gps j wx)) (fun i _ => len - (intOf i).toNat)
  case atStart => exact ⟨0, Nat.zero_le _, rfl, HST⟩
  case round =>
    obtain ⟨j, hj, rfl, HJ⟩ := hrel
    clear HST
    obtain ⟨met, nu, pv, uv, f, hS, hLq, hmj, htk⟩ := HJ.out
    by_cases hjl : j < len
    · obtain ⟨x, hx⟩ : ∃ t, xs[j]? = some t := ⟨_, List.getElem?_eq_getElem (by rw [HLX.out.1]; exact hjl)⟩
      obtain ⟨y, hy⟩ : ∃ t, ys[j]? = some t := ⟨_, List.getElem?_eq_getElem (by rw [HLX.out.2]; exact hjl)⟩
      obtain ⟨vs, fx, e1, e2, e3, e4⟩ := HX.out j x hx
      obtain ⟨us, fy, e5, e6, e7, e8⟩ := HY.out j y hy
      obtain ⟨x0, x1, x2, xa, xl, xc, rfl⟩ := FnO.shape _ _ _ _ e4
      obtain ⟨y0, y1, y2, ya, yl, yc, rfl⟩ := FnO.shape _ _ _ _ e8
      have ha := hS.at HG.out.1 HG.out.2.2.1
      have hb := hS.at HG.out.2.1 HG.out.2.2.2
      have f0 : wr.cell? ⟨ga, j * 4, none⟩ = some (.string x0) := by rw [cell_of_row wr _ _ _ _ _ ha]; exact e3 0 _ rfl
      have f1 : wr.cell? ⟨ga, j * 4 + 1, none⟩ = some (.int .i64 x1) := by rw [cell_of_row wr _ _ _ _ _ ha]; exact e3 1 _ rfl
      have f2 : wr.cell? ⟨ga, j * 4 + 2, none⟩ = some (.int .i64 x2) := by rw [cell_of_row wr _ _ _ _ _ ha]; exact e3 2 _ rfl
      have f3 : wr.cell? ⟨ga, j * 4 + 3, none⟩ = some (.slice xa xl xc) := by rw [cell_of_row wr _ _ _ _ _ ha]; exact e3 3 _ rfl
      have g0 : wr.cell? ⟨gb, j * 4, none⟩ = some (.string y0) := by rw [cell_of_row wr _ _ _ _ _ hb]; exact e7 0 _ rfl
      have g1 : wr.cell? ⟨gb, j * 4 + 1, none⟩ = some (.int .i64 y1) := by rw [cell_of_row wr _ _ _ _ _ hb]; exact e7 1 _ rfl
      have g2 : wr.cell? ⟨gb, j * 4 + 2, none⟩ = some (.int .i64 y2) := by rw [cell_of_row wr _ _ _ _ _ hb]; exact e7 2 _ rfl
      have g3 : wr.cell? ⟨gb, j * 4 + 3, none⟩ = some (.slice ya yl yc) := by rw [cell_of_row wr _ _ _ _ _ hb]; exact e7 3 _ rfl
      have hgaw : ga < wr.heap.size := lt_row ha
      have hgbw : gb < wr.heap.size := lt_row hb
      obtain ⟨V, hV⟩ : ∃ V, V = (wr.alloc (.cells #[.string x0, .int .i64 x1, .int .i64 x2, .slice xa xl xc] 56)).alloc (.cells #[.string y0, .int .i64 y1, .int .i64 y2, .slice ya yl yc] 56) := ⟨_, rfl⟩
      have hVb : Below wr.heap.size wr V := by rw [hV]; exact ((Below.refl _ _).alloc (Nat.le_refl _) _).alloc (by simp) _
      have hC := fn1_any W V p q met nu pv uv tv f fs _ _ x y fx fy ((fps.drop (j + 1)).flatten ++ (gps.drop (j + 1)).flatten) (hS.later hVb) HQ.out.1 HQ.out.2 e4 e8 (hLq.less (fun g => by rw [drop_flatG e1, drop_flatG e5]; simp only [List.count_append]; omega)) (by omega) (Nat.le_trans (szRow_mem hx) HZ.out.1) (Nat.le_trans (szRow_mem hy) HZ.out.2)
      have HNX : Hid (∀ r V', FnPost TT W p met tv fs ((fps.drop (j + 1)).flatten ++ (gps.drop (j + 1)).flatten) (x = y) r V' → (r = true → FsAt TT W p tv fs xs ys fps gps (j + 1) V') ∧ (r = false → EqPost W p (xs = ys) false V')) := fun r V' hP => by
        obtain ⟨k1, met', nu', pv', uv', f', k2, k3, k4⟩ := hP
        refine ⟨fun hr => ⟨met', nu', pv', uv', f', k2, k3, by omega, take_sameW hx hy htk (k1.1 hr)⟩, fun hr => ⟨⟨fun e => (by cases e), fun e => ?_⟩, k2.kept⟩⟩
        subst hr
        have hxy : ¬ x = y := fun e => by cases k1.2 e
        exact absurd e (unlike_atW hx hy hxy)
      rw [hV] at hC
      have hjl' : (j : Int) < (len : Int) := by omega
      clear e1 e2 e3 e4 e5 e6 e7 e8 hx hy ha hb hS hLq hmj htk HJ hVb hV
      go_wp2_with fail
      go_at_fn 35
      refine hC.mono ?_
      rintro e V' ⟨r, rfl, HP⟩
      have HN : Hid _ := HNX.out r V' HP.out
      clear HP HNX hC
      cases r with
      | true =>
        go_wp2_with fail
        go_roundw
        case rel => exact ⟨j + 1, by omega, by go_num, HN.out.1 trivial⟩
        case measure => simp [intOf]; omega
      | false =>
        go_wp2_with fail
        go_ret
        exact ⟨false, rfl, HN.out.2 trivial⟩
    · obtain rfl : j = len := by omega
      have HF : Hid (xs = ys ∧ Kept p (p + 1) W wr) := ⟨take_allW HLX.out.1 HLX.out.2 htk, hS.kept⟩
      have hjl' : decide ((j : Int) < (j : Int)) = false := by simp
      clear hS hLq hmj htk HJ
      go_wp2_with fail
      go_ret
      exact ⟨true, rfl, ⟨fun _ => HF.out.1, fun _ => rfl⟩, HF.out.2⟩

theorem two_newG (w W : World) (cA cB : Array Value) (t1 t2 : TypeId) (hW : W = (w.alloc (.cells cA t1)).alloc (.cells cB t2)) : W.heap.size = w.heap.size + 2 ∧ Below w.heap.size w W ∧ W.heap[w.heap.size]? = some (.cells cA t1 (0, 0)) ∧ W.heap[w.heap.size + 1]? = some (.cells cB t2 (0, 0)) := by
  obtain ⟨w1, h1⟩ : ∃ w1, w1 = w.alloc (.cells cA t1) := ⟨_, rfl⟩
  have s1 : w1.heap.size = w.heap.size + 1 := by rw [h1]; simp
  have b1 : Below w.heap.size w w1 := by rw [h1]; exact (Below.refl _ _).alloc (Nat.le_refl _) _
  have b2 : Below w1.heap.size w1 W := by rw [hW, h1]; exact (Below.refl _ _).alloc (Nat.le_refl _) _
  have n1 : w1.heap[w.heap.size]? = some (.cells cA t1 (0, 0)) := by rw [h1]; exact heap_alloc_new w _
  have n2 : W.heap[w.heap.size + 1]? = some (.cells cB t2 (0, 0)) := by rw [hW, ← h1, ← s1]; exact heap_alloc_new w1 _
  refine ⟨by rw [hW]; simp, b1.trans (b2.mono b1.size), ?_, n2⟩
  rw [b2.block _ (by omega)]; exact n1

theorem low_of {W w wr : World} {p : Nat} (hk : Kept p (p + 1) W wr) (hb : Below w.heap.size w W) (hp : w.heap.size ≤ p) : Below w.heap.size w wr :=
  ⟨hk.os.trans hb.os, hk.tape.trans hb.tape, hk.output.trans hb.output, Nat.le_trans hb.size hk.size, fun g hg => (hk.block g (by have := hb.size; omega) (by omega)).trans (hb.block g hg)⟩

set_option maxRecDepth 100000 in
set_option maxHeartbeats 4000000 in
theorem sameFns_any (w : World) (v1 v2 : Value) (xs ys : List DFn) (f1 f2 : List Nat) (o1 : OwnRow 4 56 FnO w v1 xs f1) (o2 : OwnRow 4 56 FnO w v2 ys f2) (hnd : ∀ g, (f1 ++ f2).count g ≤ 1) (hlt : ∀ g ∈ f1 ++ f2, g < w.heap.size) (z1 : szRow szFnD xs ≤ 1048576) (z2 : szRow szFnD ys ≤ 1048576) :
    Calls Try.prog 26 #[v1, v2] w fun e w' => ∃ r : Bool, e = .returned (.bool r) ∧ Hid (r = true ↔ xs = ys) ∧ Below w.heap.size w w' := by
  obtain ⟨W, hW⟩ : ∃ W, W = (w.alloc (.cells #[.int .i64 0, .map none, .slice none 0 0] 80)).alloc (.cells #[.pointer (some ⟨w.heap.size, 0, none⟩)] 76) := ⟨_, rfl⟩
  obtain ⟨hWs, hWb, nA, nB⟩ := two_newG w W _ _ _ _ hW
  have hSv : Sv 80 9 W W w.heap.size 0 0 (.map none) (.slice none 0 0) (.slice none 0 0) (fun _ _ => none) [] [] := ⟨Kept.refl _ _ _, by omega, by decide, nA, .inl ⟨rfl, fun _ _ => rfl⟩, ⟨[], rfl, .inl ⟨rfl, rfl⟩⟩, ⟨rfl, .inl ⟨rfl, rfl⟩⟩, fun x n v h => (by cases h), fun q hq => (by cases hq)⟩
  have hC := equalFn_any W W w.heap.size (w.heap.size + 1) _ _ _ _ _ v1 v2 xs ys f1 f2 hSv nB (by omega) ⟨_, nA⟩ (o1.frame FnO.lasts fun g hg => hWb.block g (hlt g (List.mem_append_left _ hg))) (o2.frame FnO.lasts fun g hg => hWb.block g (hlt g (List.mem_append_right _ hg))) ⟨Nat.le_refl _, hnd, fun g hg => by have := hlt g hg; omega, fun x n v h => (by cases h)⟩ z1 z2
  have hmf : ∀ (fn : Fn) (first cap : Array Value) (w : World), (Instr.makeFunc fn first cap).run Try.prog w = .ok (.func fn first cap) w := fun _ _ _ _ => rfl
  have HLW : Hid (∀ wr, Kept w.heap.size (w.heap.size + 1) W wr → Below w.heap.size w wr) := fun wr hk => low_of hk hWb (Nat.le_refl _)
  obtain ⟨a3, c3, rfl⟩ := own_lenG o1
  obtain ⟨b3, d3, rfl⟩ := own_lenG o2
  rw [hW] at hC
  have HW : Hid (W = _) := hW
  clear hW hWs hWb nA nB hSv o1 o2 hnd hlt z1 z2
  go_enter Try.func26, Try.ntmps26
  go_wp2_with fail
  refine hC.mono ?_
  clear hC
  rintro e w' ⟨r, rfl, HP⟩
  rw [← HW.out] at HP
  have HB : Hid ((r = true ↔ xs = ys) ∧ Below w.heap.size w w') := ⟨HP.out.1, HLW.out _ HP.out.2⟩
  clear HP HLW HW
  go_wp2_with fail
  go_ret
  exact ⟨r, rfl, HB.out.1, HB.out.2⟩

end Go.Proofs.Ytahmbnokjfkfiaa
