/- The law's own marks on terms, and whether they are held. -/
import Derived.Test.YtkfpfijblflcfaaCnt
namespace Go.Proofs.Ytkfpfijblflcfaa
open Go.RowKit
set_option linter.unusedVariables false

def mtF : Nat → Int → ByteArray → ByteArray
  | 0, _, s => s
  | f + 1, y, s => if 0 < y then mtF f (y / 10) (strOfNums [48 + y % 10] ++ s) else s

/-- The text of a mark. -/
def mt (k : Int) : ByteArray := if k ≤ 0 then ⟨#[109, 48]⟩ else ⟨#[109]⟩ ++ mtF k.toNat k ⟨#[]⟩

theorem mtF_more : ∀ (f g : Nat) (y : Int) (s : ByteArray), y.toNat ≤ f → y.toNat ≤ g → mtF f y s = mtF g y s := by
  intro f
  induction f with
  | zero =>
    intro g y s hf _
    cases g with
    | zero => rfl
    | succ g => rw [mtF, mtF, if_neg (by omega)]
  | succ f ih =>
    intro g y s hf hg
    cases g with
    | zero => rw [mtF, mtF, if_neg (by omega)]
    | succ g =>
      rw [mtF, mtF]
      by_cases h : 0 < y
      · rw [if_pos h, if_pos h, ih g (y / 10) _ (by omega) (by omega)]
      · rw [if_neg h, if_neg h]

theorem mtF_go (y : Int) (s : ByteArray) (h : 0 < y) : mtF y.toNat y s = mtF (y / 10).toNat (y / 10) (strOfNums [48 + y % 10] ++ s) := by
  obtain ⟨f, hf⟩ : ∃ f, y.toNat = f + 1 := ⟨y.toNat - 1, by omega⟩
  rw [hf, mtF, if_pos h]
  exact mtF_more _ _ _ _ (by omega) (by omega)
theorem mtF_end (y : Int) (s : ByteArray) (h : ¬ 0 < y) : mtF y.toNat y s = s := by
  rw [show y.toNat = 0 from by omega]; rfl

def markList {α : Type} (f : Int → α → α × Int) : Int → List α → List α × Int
  | k, [] => ([], k)
  | k, t :: r => ((f k t).1 :: (markList f (f k t).2 r).1, (markList f (f k t).2 r).2)

/-- The marks on a list of terms from k on, and the next mark. -/
def markL : (d : Nat) → Int → List (Tm d) → List (Tm d) × Int
  | 0, k, ts => (ts, k)
  | d + 1, k, ts => markList (fun k t => (((k, k + 1, mt (k + 2), (markL d (k + 3) t.L).1) : Int × Int × ByteArray × List (Tm d)), (markL d (k + 3) t.L).2)) k ts

/-- A term marked from k on. -/
def markT (d : Nat) (k : Int) (t : Tm (d + 1)) : Tm (d + 1) := (k, k + 1, mt (k + 2), (markL d (k + 3) t.L).1)

theorem markList_len {α : Type} (f : Int → α → α × Int) : ∀ (ts : List α) (k : Int), (markList f k ts).1.length = ts.length := by
  intro ts
  induction ts with
  | nil => intro k; rfl
  | cons t r ih => intro k; show ((f k t).1 :: _).length = _; simp [ih]

theorem markL_next : ∀ (d : Nat) (k : Int) (ts : List (Tm d)), (markL d k ts).2 = k + 3 * (cntL d ts : Nat) := by
  intro d
  induction d with
  | zero => intro k ts; show k = k + 3 * ((0 : Nat) : Int); omega
  | succ d ih =>
    intro k ts
    show (markList _ k ts).2 = k + 3 * ((ts.map fun t => 1 + cntL d t.L).sum : Nat)
    induction ts generalizing k with
    | nil => show k = _; simp
    | cons t r ih2 =>
      show (markList _ _ r).2 = _
      rw [ih2, ih]
      simp only [List.map_cons, List.sum_cons]
      omega

theorem markL_at (d : Nat) : ∀ (ts : List (Tm (d + 1))) (k : Int) (j : Nat), (markL (d + 1) k ts).1[j]? = (ts[j]?).map (markT d (k + 3 * (cntP d ts j : Nat))) := by
  intro ts
  induction ts with
  | nil => intro k j; rfl
  | cons t r ih =>
    intro k j
    cases j with
    | zero =>
      show some (markT d k t) = some (markT d (k + 3 * ((0 : Nat) : Int)) t)
      rw [show k + 3 * ((0 : Nat) : Int) = k from by omega]
    | succ j =>
      have h := ih ((markL d (k + 3) t.L).2) j
      have e : cntP d (t :: r) (j + 1) = (1 + cntL d t.L) + cntP d r j := by unfold cntP; simp
      rw [markL_next] at h
      show (markL (d + 1) ((markL d (k + 3) t.L).2) r).1[j]? = _
      rw [markL_next, h, e]
      simp only [List.getElem?_cons_succ]
      congr 2
      omega

/-- Only the blocks of fp were written; new ones may have come. -/
structure Wrote (fp : List Nat) (w w' : World) : Prop where
  os : w'.os = w.os
  tape : w'.tape = w.tape
  output : w'.output = w.output
  size : w.heap.size ≤ w'.heap.size
  block : ∀ g, g < w.heap.size → g ∉ fp → w'.heap[g]? = w.heap[g]?

theorem Wrote.refl (fp : List Nat) (w : World) : Wrote fp w w := ⟨rfl, rfl, rfl, Nat.le_refl _, fun _ _ _ => rfl⟩
theorem Wrote.trans {fp : List Nat} {a b c : World} (h : Wrote fp a b) (k : Wrote fp b c) : Wrote fp a c :=
  ⟨k.os.trans h.os, k.tape.trans h.tape, k.output.trans h.output, Nat.le_trans h.size k.size, fun g hg hn => (k.block g (Nat.lt_of_lt_of_le hg h.size) hn).trans (h.block g hg hn)⟩
theorem Wrote.mono {fp fq : List Nat} {a b : World} (h : Wrote fp a b) (hs : ∀ g ∈ fp, g ∈ fq) : Wrote fq a b := ⟨h.os, h.tape, h.output, h.size, fun g hg hn => h.block g hg fun h2 => hn (hs g h2)⟩
theorem Wrote.of_below {fp : List Nat} {a b : World} (h : Below a.heap.size a b) : Wrote fp a b := ⟨h.os, h.tape, h.output, h.size, fun g hg _ => h.block g hg⟩
theorem Wrote.of_set (w : World) (g o : Nat) (v : Value) : Wrote [g] w (w.setCell ⟨g, o, none⟩ v) :=
  ⟨rfl, rfl, rfl, by simp, fun j _ hn => heap_setCell_other w ⟨g, o, none⟩ j v (by simpa using hn)⟩

theorem OwnL.lt : ∀ {d : Nat} {w : World} {v : Value} {ts : List (Tm d)} {fp : List Nat}, OwnL d w v ts fp → ∀ g ∈ fp, g < w.heap.size := by
  intro d
  induction d with
  | zero => intro w v ts fp h g hg; rw [h.2] at hg; cases hg
  | succ d ih =>
    intro w v ts fp h g hg
    rcases h with ⟨_, rfl, _⟩ | ⟨g0, c, cur, fps, h1, h2, h3, rfl, h4⟩
    · cases hg
    · rcases List.mem_cons.1 hg with rfl | hg
      · exact Nat.lt_of_not_le fun hn => by simp [Array.getElem?_eq_none hn] at h2
      · obtain ⟨f, hf, hgf⟩ := List.mem_flatten.1 hg
        obtain ⟨i, hi, e⟩ := List.getElem_of_mem hf
        obtain ⟨t, ht⟩ : ∃ t, ts[i]? = some t := ⟨_, List.getElem?_eq_getElem (by omega)⟩
        obtain ⟨lv, f', e1, _, _, _, _, e6⟩ := h4 i t ht
        rw [List.getElem?_eq_getElem hi, e] at e1
        cases e1
        exact ih e6 g hgf

/-- The contract of the marks on a list. -/
def MkS (f d : Nat) : Prop := ∀ (v : Value) (ts : List (Tm d)) (fp : List Nat) (k : Int) (w : World), OwnL d w v ts fp → fp.Nodup → 0 ≤ k → k + 3 * (cntL d ts : Nat) ≤ 1099511627776 →
  Calls Try.prog f #[v, .int .i64 k] w fun e w' => e = .returned (.int .i64 (k + 3 * (cntL d ts : Nat))) ∧ OwnL d w' v (markL d k ts).1 fp ∧ Wrote fp w w'

/-- The first j terms of a row are marked, the others are as they were. -/
def Half (d : Nat) (ts : List (Tm (d + 1))) (k : Int) (j : Nat) (w : World) (cur : Array Value) (fps : List (List Nat)) : Prop :=
  ∀ (i : Nat) (t : Tm (d + 1)), ts[i]? = some t → ∃ lv f, fps[i]? = some f ∧
    (i < j → cur[i * 4]? = some (.int .i64 (k + 3 * (cntP d ts i : Nat))) ∧ cur[i * 4 + 1]? = some (.int .i64 (k + 3 * (cntP d ts i : Nat) + 1)) ∧ cur[i * 4 + 2]? = some (.string (mt (k + 3 * (cntP d ts i : Nat) + 2))) ∧ cur[i * 4 + 3]? = some lv ∧ OwnL d w lv (markL d (k + 3 * (cntP d ts i : Nat) + 3) t.L).1 f) ∧
    (j ≤ i → cur[i * 4]? = some (.int .i64 t.K) ∧ cur[i * 4 + 1]? = some (.int .i64 t.N) ∧ cur[i * 4 + 2]? = some (.string t.S) ∧ cur[i * 4 + 3]? = some lv ∧ OwnL d w lv t.L f)

theorem nodup_fl : ∀ (fps : List (List Nat)), fps.flatten.Nodup → (∀ f ∈ fps, f.Nodup) ∧ ∀ (i j : Nat) (f f' : List Nat), i < j → fps[i]? = some f → fps[j]? = some f' → ∀ x ∈ f, x ∉ f' := by
  intro fps
  induction fps with
  | nil => intro _; exact ⟨(fun f hf => by cases hf), (fun i j f f' _ h => by simp at h)⟩
  | cons a r ih =>
    intro h
    rw [List.flatten_cons, List.nodup_append] at h
    obtain ⟨h1, h2⟩ := ih h.2.1
    refine ⟨fun f hf => ?_, fun i j f f' hij hi hj x hx hx' => ?_⟩
    · rcases List.mem_cons.1 hf with rfl | hf
      · exact h.1
      · exact h1 f hf
    · cases j with
      | zero => omega
      | succ j =>
        simp only [List.getElem?_cons_succ] at hj
        cases i with
        | zero =>
          simp only [List.getElem?_cons_zero, Option.some.injEq] at hi
          subst hi
          exact h.2.2 x hx x (List.mem_flatten.2 ⟨f', List.mem_of_getElem? hj, hx'⟩) rfl
        | succ i =>
          simp only [List.getElem?_cons_succ] at hi
          exact h2 i j f f' (by omega) hi hj x hx hx'

theorem mk_step {d : Nat} {ts : List (Tm (d + 1))} {k : Int} {j g : Nat} {wr V V2 : World} {cur cur3 : Array Value} {fps : List (List Nat)} {t : Tm (d + 1)} {lv : Value} {f : List Nat}
    (hH : Half d ts k j wr cur fps) (ht : ts[j]? = some t) (hf : fps[j]? = some f) (hlv : cur[j * 4 + 3]? = some lv) (hnd : (g :: fps.flatten).Nodup)
    (hV : ∀ x, x < wr.heap.size → x ≠ g → V.heap[x]? = wr.heap[x]?) (hW : Wrote f V V2) (hVs : wr.heap.size ≤ V.heap.size) (hown : OwnL d V2 lv (markL d (k + 3 * (cntP d ts j : Nat) + 3) t.L).1 f)
    (c0 : cur3[j * 4]? = some (.int .i64 (k + 3 * (cntP d ts j : Nat)))) (c1 : cur3[j * 4 + 1]? = some (.int .i64 (k + 3 * (cntP d ts j : Nat) + 1))) (c2 : cur3[j * 4 + 2]? = some (.string (mt (k + 3 * (cntP d ts j : Nat) + 2))))
    (c3 : ∀ x, x < j * 4 ∨ j * 4 + 2 < x → cur3[x]? = cur[x]?) : Half d ts k (j + 1) V2 cur3 fps := by
  have hg : ∀ (i : Nat) (f' : List Nat), fps[i]? = some f' → g ∉ f' := fun i f' h hm => (List.nodup_cons.1 hnd).1 (List.mem_flatten.2 ⟨f', List.mem_of_getElem? h, hm⟩)
  have hdis : ∀ (i : Nat) (f' : List Nat), fps[i]? = some f' → i ≠ j → ∀ x ∈ f', x ∉ f := by
    intro i f' h hij x hx hxf
    have hp := (nodup_fl fps (List.nodup_cons.1 hnd).2).2
    rcases Nat.lt_or_gt_of_ne hij with hlt | hlt
    · exact hp i j f' f hlt h hf x hx hxf
    · exact hp j i f f' hlt hf h x hxf hx
  have keep : ∀ (i : Nat) (f' : List Nat) (lv' : Value) (l : List (Tm d)), fps[i]? = some f' → i ≠ j → OwnL d wr lv' l f' → OwnL d V2 lv' l f' := by
    intro i f' lv' l h hij ho
    refine ho.frame fun x hx => ?_
    have hxs := ho.lt x hx
    rw [hW.block x (by omega) (hdis i f' h hij x hx), hV x hxs (fun e => hg i f' h (e ▸ hx))]
  intro i u hu
  by_cases hij : i = j
  · subst hij
    rw [ht] at hu
    obtain rfl := Option.some.inj hu
    exact ⟨lv, f, hf, fun _ => ⟨c0, c1, c2, by rw [c3 _ (by omega)]; exact hlv, hown⟩, fun h => by omega⟩
  · obtain ⟨lv', f', e1, e2, e3⟩ := hH i u hu
    refine ⟨lv', f', e1, fun hlt => ?_, fun hge => ?_⟩
    · obtain ⟨a0, a1, a2, a3, a4⟩ := e2 (by omega)
      exact ⟨by rw [c3 _ (by omega)]; exact a0, by rw [c3 _ (by omega)]; exact a1, by rw [c3 _ (by omega)]; exact a2, by rw [c3 _ (by omega)]; exact a3, keep i f' lv' _ e1 hij a4⟩
    · obtain ⟨a0, a1, a2, a3, a4⟩ := e3 (by omega)
      exact ⟨by rw [c3 _ (by omega)]; exact a0, by rw [c3 _ (by omega)]; exact a1, by rw [c3 _ (by omega)]; exact a2, by rw [c3 _ (by omega)]; exact a3, keep i f' lv' _ e1 hij a4⟩

end Go.Proofs.Ytkfpfijblflcfaa
