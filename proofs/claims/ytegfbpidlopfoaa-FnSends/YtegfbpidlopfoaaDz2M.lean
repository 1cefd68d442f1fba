/- What the law asks of each that is told: the term it came of is the same as the two put together again. -/
import Derived.Test.YtegfbpidlopfoaaDz1M
import Derived.Test.YtegfbpidlopfoaaSs2M
import Derived.Test.YtegfbpidlopfoaaSs3M
import Derived.Test.YtegfbpidlopfoaaSrM
import Derived.Test.YtegfbpidlopfoaaPutM
namespace Go.Proofs.Ytegfbpidlopfoaa
open Go.RowKit
set_option linter.unusedVariables false

theorem cnt_few3 : ∀ ts : List (Tm 3), (∀ x ∈ ts, SmT 3 x) → cntL 3 ts ≤ 16 * ts.length := by
  intro ts
  induction ts with
  | nil => intro _; exact Nat.zero_le _
  | cons t r ih =>
    intro h
    have h1 := ih fun x hx => h x (List.mem_cons_of_mem _ hx)
    have h2 := h t (List.mem_cons_self ..)
    have h3 := sm_cnt 2 t.L h2.2.2.2 h2.2.2.1
    have h4 : (4 : Nat) ^ 2 = 16 := by decide
    have h5 : cntL 3 (t :: r) = 1 + cntL 2 t.L + cntL 3 r := cntL_cons 2 t r
    rw [h5, List.length_cons]
    omega

theorem few3 {ts : List (Tm 3)} (h : ∀ x ∈ ts, SmT 3 x) (hl : ts.length ≤ 1048576) : FewL 3 ts := ⟨hl, fun t ht => sm_few 2 t.L (h t ht).2.2.2 (h t ht).2.2.1⟩

/-- What lies there at each of them. -/
theorem sd_at {w : World} {av ar : Option Addr} {c cr n j : Nat} {ts : List (Tm 3)} (hr : RdL 3 w (.slice av n c) ts) (hs : RowOf 8 (SendR 1) w (.slice ar n cr) (ts.map (sendOf 1))) (hg : ∀ x ∈ ts, ¬ NoS 1 x) (hsm : ∀ x ∈ ts, SmT 3 x) (hn : ts.length = n) (hj : j < n) :
    ∃ (g o g2 o2 : Nat) (la : Option Addr) (lc : Nat) (k1 n1 : Int) (s1 : ByteArray) (a1 : Option Addr) (l1 c1 : Nat) (k2 n2 : Int) (s2 : ByteArray) (a2 : Option Addr) (l2 c2 : Nat) (C : Nat), av = some ⟨g, o, none⟩ ∧ ar = some ⟨g2, o2, none⟩ ∧ Four w g (o + j * 4) 4 0 ⟨#[]⟩ (.slice la 2 lc) ∧ Four w g2 (o2 + j * 8) k1 n1 s1 (.slice a1 l1 c1) ∧ Four w g2 (o2 + j * 8 + 4) k2 n2 s2 (.slice a2 l2 c2) ∧ C ≤ 300 ∧
      ∀ W : World, Below w.heap.size w W → RootOk (W.alloc (.cells #[.int .i64 k1, .int .i64 n1, .string s1, .slice a1 l1 c1, .int .i64 k2, .int .i64 n2, .string s2, .slice a2 l2 c2] 26)) 4 0 ⟨#[]⟩ (.slice la 2 lc) (.slice (some ⟨W.heap.size, 0, none⟩) 2 2) C := by
  obtain ⟨x, hx⟩ : ∃ x, ts[j]? = some x := ⟨_, List.getElem?_eq_getElem (by omega)⟩
  have hm := List.mem_of_getElem? hx
  obtain ⟨p, q, e1, e2⟩ := good_open (hg x hm)
  have hK : x.K = 4 := Classical.byContradiction fun hn => hg x hm (.inl hn)
  have hS := hsm x hm
  have hsh := hS.1
  rw [hK] at hsh
  obtain ⟨z1, z2, _⟩ := (shape4 _ _ _).1 hsh
  have hse : x.S = ⟨#[]⟩ := empty_of z2
  obtain ⟨a', c', ev, hel⟩ := hr
  simp only [Value.slice.injEq] at ev
  obtain ⟨g, o, lv, q1, q2, q3⟩ := hel j x hx
  rw [e1] at q3
  obtain ⟨la, lc, rfl⟩ := q3.len
  obtain ⟨a3, c3, ev2, hel2⟩ := hs
  simp only [Value.slice.injEq] at ev2
  obtain ⟨b2, o2, vs, r1, r2, r3, r4⟩ := hel2 j (sendOf 1 x) (by rw [List.getElem?_map, hx]; rfl)
  rw [e2] at r4
  obtain ⟨v0, v1, v2, v3, v4, v5, v6, v7, rfl, ⟨lv1, m1, m2⟩, ⟨lv2, m3, m4⟩⟩ := r4
  simp only [List.cons.injEq, and_true] at m1 m3
  obtain ⟨rfl, rfl, rfl, rfl⟩ := m1
  obtain ⟨rfl, rfl, rfl, rfl⟩ := m3
  obtain ⟨x1, x2, hv3⟩ := m2.len
  obtain ⟨y1, y2, hv7⟩ := m4.len
  subst hv3 hv7
  have hcn := sm_cnt 2 x.L hS.2.2.2 hS.2.2.1
  have h16 : (4 : Nat) ^ 2 = 16 := by decide
  rw [e1] at hcn
  rw [hK, z1, hse] at q2
  refine ⟨g, o, b2, o2, la, lc, p.K, p.N, p.S, x1, p.L.length, x2, q.K, q.N, q.S, y1, q.L.length, y2, 1 + cntL 2 [p, q], ev.1.trans q1, ev2.1.trans r1, q2, ⟨r3 0 _ rfl, r3 1 _ rfl, r3 2 _ rfl, r3 3 _ rfl⟩, ⟨?_, ?_, ?_, ?_⟩, by omega, fun W hW => ?_⟩
  · have := r3 4 _ rfl; exact this
  · have := r3 5 _ rfl; exact this
  · have := r3 6 _ rfl; exact this
  · have := r3 7 _ rfl; exact this
  · obtain ⟨Z, hZ⟩ : ∃ Z, Z = W.alloc (.cells #[.int .i64 p.K, .int .i64 p.N, .string p.S, .slice x1 p.L.length x2, .int .i64 q.K, .int .i64 q.N, .string q.S, .slice y1 q.L.length y2] 26) := ⟨_, rfl⟩
    have hA : Below W.heap.size W Z := by rw [hZ]; exact (Below.refl _ _).alloc (Nat.le_refl _) _
    have nZ : Z.heap[W.heap.size]? = some (.cells #[.int .i64 p.K, .int .i64 p.N, .string p.S, .slice x1 p.L.length x2, .int .i64 q.K, .int .i64 q.N, .string q.S, .slice y1 q.L.length y2] 26 (0, 0)) := by rw [hZ]; exact heap_alloc_new W _
    have hbZ : Below w.heap.size w Z := hW.trans (hA.mono hW.size)
    rw [← hZ]
    refine ⟨2, [p, q], q3.later hbZ, ⟨_, 2, rfl, fun i t ht => ?_⟩, .inl ((shape4 _ _ _).2 ⟨rfl, rfl, by simp⟩), ?_, rfl⟩
    · have hc := fun k => cell_of_row Z W.heap.size k _ _ _ nZ
      match i, ht with
      | 0, ht =>
        obtain rfl : p = t := by simpa using ht
        exact ⟨W.heap.size, 0, _, rfl, ⟨by rw [hc]; rfl, by rw [hc]; rfl, by rw [hc]; rfl, by rw [hc]; rfl⟩, m2.later hbZ⟩
      | 1, ht =>
        obtain rfl : q = t := by simpa using ht
        exact ⟨W.heap.size, 0, _, rfl, ⟨by rw [hc]; rfl, by rw [hc]; rfl, by rw [hc]; rfl, by rw [hc]; rfl⟩, m4.later hbZ⟩
      | i + 2, ht => simp at ht
    · have := sm_ok 2 x.L hS.2.2.2
      rw [e1] at this
      exact this

end Go.Proofs.Ytegfbpidlopfoaa
