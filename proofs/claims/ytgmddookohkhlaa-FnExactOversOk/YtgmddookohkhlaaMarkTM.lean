/- The law's own marks on terms, and whether they are held. -/
import Derived.Test.YtgmddookohkhlaaTmM
namespace Go.Proofs.Ytgmddookohkhlaa
open Go.RowKit
set_option linter.unusedVariables false

def mtF : Nat → Int → ByteArray → ByteArray
  | 0, _, s => s
  | f + 1, y, s => if 0 < y then mtF f (y / 10) (strOfNums [48 + y % 10] ++ s) else s

/-- The text of a mark. -/
def mt (k : Int) : ByteArray := if k ≤ 0 then ⟨#[109, 48]⟩ else ⟨#[109]⟩ ++ mtF k.toNat k ⟨#[]⟩

theorem mtF_more : ∀ (f g : Nat) (y : Int) (s : ByteArray), y.toNat ≤ f → y.toNat ≤ g → mtF f y s = mtF g y s := by
  intro f
  induction f with
  | zero =>
    intro g y s hf _
    cases g with
    | zero => rfl
    | succ g => rw [mtF, mtF, if_neg (by omega)]
  | succ f ih =>
    intro g y s hf hg
    cases g with
    | zero => rw [mtF, mtF, if_neg (by omega)]
    | succ g =>
      rw [mtF, mtF]
      by_cases h : 0 < y
      · rw [if_pos h, if_pos h, ih g (y / 10) _ (by omega) (by omega)]
      · rw [if_neg h, if_neg h]

theorem mtF_go (y : Int) (s : ByteArray) (h : 0 < y) : mtF y.toNat y s = mtF (y / 10).toNat (y / 10) (strOfNums [48 + y % 10] ++ s) := by
  obtain ⟨f, hf⟩ : ∃ f, y.toNat = f + 1 := ⟨y.toNat - 1, by omega⟩
  rw [hf, mtF, if_pos h]
  exact mtF_more _ _ _ _ (by omega) (by omega)
theorem mtF_end (y : Int) (s : ByteArray) (h : ¬ 0 < y) : mtF y.toNat y s = s := by
  rw [show y.toNat = 0 from by omega]; rfl

set_option maxHeartbeats 400000 in
theorem markText_any (k : Int) (w : World) (h0 : 0 ≤ k) (h1 : k ≤ 1099511627776) :
    Calls Try.prog 70 #[.int .i64 k] w fun e w' => e = .returned (.string (mt k)) ∧ Below w.heap.size w w' := by
  by_cases hk : k ≤ 0
  · have HF : Hid (mt k = ⟨#[109, 48]⟩) := by show _ = _; unfold mt; rw [if_pos hk]
    go_enter Try.func70, Try.ntmps70
    go_wp2
    go_ret
    exact ⟨by rw [HF.out]; rfl, Below.refl _ _⟩
  · have HF : Hid (mt k = ⟨#[109]⟩ ++ mtF k.toNat k ⟨#[]⟩) := by show _ = _; unfold mt; rw [if_neg hk]
    go_enter Try.func70, Try.ntmps70
    go_wp2_with fail
    go_loopw [0, 3] (fun x o wr => ∃ (y : Int) (s : ByteArray), 0 ≤ y ∧ y ≤ 1099511627776 ∧ x = .int .i64 y ∧ o = .string s ∧ (s.size : Int) + y ≤ k ∧ Hid (mtF k.toNat k ⟨#[]⟩ = mtF y.toNat y s) ∧ Below w.heap.size w wr) (fun x _ _ => (intOf x).toNat)
    case atStart => exact ⟨k, ⟨#[]⟩, h0, h1, rfl, rfl, by show ((0 : Nat) : Int) + k ≤ k; omega, rfl, Below.refl _ _⟩
    case round =>
      obtain ⟨y, s, hy0, hy1, rfl, rfl, hsz, HM, hb⟩ := hrel
      by_cases hy : 0 < y
      · have hcv : (convert 108 9 (.slice (some ⟨wr.heap.size, 0, none⟩) 1 1)).run Try.prog (wr.alloc (.cells #[.int .u8 (48 + y % 10)] 5)) = .ok (.string (strOfNums [48 + y % 10])) (wr.alloc (.cells #[.int .u8 (48 + y % 10)] 5)) := by
          refine run_convert_bytes_arg _ 108 5 Try.underlying108 Try.underlying5 wr.heap.size 0 1 1 [48 + y % 10] rfl (fun i hi => ?_) 9 Try.underlying9
          obtain rfl : i = 0 := by omega
          simp
        have HM2 : Hid (mtF k.toNat k ⟨#[]⟩ = mtF (y / 10).toNat (y / 10) (strOfNums [48 + y % 10] ++ s)) := HM.out.trans (mtF_go y s hy)
        have hb2 : Below w.heap.size w (wr.alloc (.cells #[.int .u8 (48 + y % 10)] 5)) := hb.alloc hb.size _
        have hD : (strOfNums [48 + y % 10]).size = 1 := by rw [strOfNums_size]; rfl
        generalize strOfNums [48 + y % 10] = D at hcv HM2 hD
        clear HM
        go_wp2_with fail
        go_roundw
        case rel => exact ⟨y / 10, _, by omega, by omega, rfl, rfl, by rw [ByteArray.size_append, hD]; omega, HM2, hb2⟩
        case measure => simp [intOf]; omega
      · have HR : Hid (mt k = ⟨#[109]⟩ ++ s) := by rw [HF.out, HM.out, mtF_end y s hy]; exact rfl
        clear HM HF
        go_wp2_with fail
        go_ret
        exact ⟨by rw [HR.out]; rfl, hb⟩

def markList {α : Type} (f : Int → α → α × Int) : Int → List α → List α × Int
  | k, [] => ([], k)
  | k, t :: r => ((f k t).1 :: (markList f (f k t).2 r).1, (markList f (f k t).2 r).2)

/-- The marks on a list of terms from k on, and the next mark. -/
def markL : (d : Nat) → Int → List (Tm d) → List (Tm d) × Int
  | 0, k, ts => (ts, k)
  | d + 1, k, ts => markList (fun k t => (((k, k + 1, mt (k + 2), (markL d (k + 3) t.L).1) : Int × Int × ByteArray × List (Tm d)), (markL d (k + 3) t.L).2)) k ts

/-- A term marked from k on. -/
def markT (d : Nat) (k : Int) (t : Tm (d + 1)) : Tm (d + 1) := (k, k + 1, mt (k + 2), (markL d (k + 3) t.L).1)

theorem markList_len {α : Type} (f : Int → α → α × Int) : ∀ (ts : List α) (k : Int), (markList f k ts).1.length = ts.length := by
  intro ts
  induction ts with
  | nil => intro k; rfl
  | cons t r ih => intro k; show ((f k t).1 :: _).length = _; simp [ih]

theorem markL_next : ∀ (d : Nat) (k : Int) (ts : List (Tm d)), (markL d k ts).2 = k + 3 * (cntL d ts : Nat) := by
  intro d
  induction d with
  | zero => intro k ts; show k = k + 3 * ((0 : Nat) : Int); omega
  | succ d ih =>
    intro k ts
    show (markList _ k ts).2 = k + 3 * ((ts.map fun t => 1 + cntL d t.L).sum : Nat)
    induction ts generalizing k with
    | nil => show k = _; simp
    | cons t r ih2 =>
      show (markList _ _ r).2 = _
      rw [ih2, ih]
      simp only [List.map_cons, List.sum_cons]
      omega

theorem markL_at (d : Nat) : ∀ (ts : List (Tm (d + 1))) (k : Int) (j : Nat), (markL (d + 1) k ts).1[j]? = (ts[j]?).map (markT d (k + 3 * (cntP d ts j : Nat))) := by
  intro ts
  induction ts with
  | nil => intro k j; rfl
  | cons t r ih =>
    intro k j
    cases j with
    | zero =>
      show some (markT d k t) = some (markT d (k + 3 * ((0 : Nat) : Int)) t)
      rw [show k + 3 * ((0 : Nat) : Int) = k from by omega]
    | succ j =>
      have h := ih ((markL d (k + 3) t.L).2) j
      have e : cntP d (t :: r) (j + 1) = (1 + cntL d t.L) + cntP d r j := by unfold cntP; simp
      rw [markL_next] at h
      show (markL (d + 1) ((markL d (k + 3) t.L).2) r).1[j]? = _
      rw [markL_next, h, e]
      simp only [List.getElem?_cons_succ]
      congr 2
      omega

/-- Only the blocks of fp were written; new ones may have come. -/
structure Wrote (fp : List Nat) (w w' : World) : Prop where
  os : w'.os = w.os
  tape : w'.tape = w.tape
  output : w'.output = w.output
  size : w.heap.size ≤ w'.heap.size
  block : ∀ g, g < w.heap.size → g ∉ fp → w'.heap[g]? = w.heap[g]?

theorem Wrote.refl (fp : List Nat) (w : World) : Wrote fp w w := ⟨rfl, rfl, rfl, Nat.le_refl _, fun _ _ _ => rfl⟩
theorem Wrote.trans {fp : List Nat} {a b c : World} (h : Wrote fp a b) (k : Wrote fp b c) : Wrote fp a c :=
  ⟨k.os.trans h.os, k.tape.trans h.tape, k.output.trans h.output, Nat.le_trans h.size k.size, fun g hg hn => (k.block g (Nat.lt_of_lt_of_le hg h.size) hn).trans (h.block g hg hn)⟩
theorem Wrote.mono {fp fq : List Nat} {a b : World} (h : Wrote fp a b) (hs : ∀ g ∈ fp, g ∈ fq) : Wrote fq a b := ⟨h.os, h.tape, h.output, h.size, fun g hg hn => h.block g hg fun h2 => hn (hs g h2)⟩
theorem Wrote.of_below {fp : List Nat} {a b : World} (h : Below a.heap.size a b) : Wrote fp a b := ⟨h.os, h.tape, h.output, h.size, fun g hg _ => h.block g hg⟩
theorem Wrote.of_set (w : World) (g o : Nat) (v : Value) : Wrote [g] w (w.setCell ⟨g, o, none⟩ v) :=
  ⟨rfl, rfl, rfl, by simp, fun j _ hn => heap_setCell_other w ⟨g, o, none⟩ j v (by simpa using hn)⟩

theorem OwnL.lt : ∀ {d : Nat} {w : World} {v : Value} {ts : List (Tm d)} {fp : List Nat}, OwnL d w v ts fp → ∀ g ∈ fp, g < w.heap.size := by
  intro d
  induction d with
  | zero => intro w v ts fp h g hg; rw [h.2] at hg; cases hg
  | succ d ih =>
    intro w v ts fp h g hg
    rcases h with ⟨_, rfl, _⟩ | ⟨g0, c, cur, fps, h1, h2, h3, rfl, h4⟩
    · cases hg
    · rcases List.mem_cons.1 hg with rfl | hg
      · exact Nat.lt_of_not_le fun hn => by simp [Array.getElem?_eq_none hn] at h2
      · obtain ⟨f, hf, hgf⟩ := List.mem_flatten.1 hg
        obtain ⟨i, hi, e⟩ := List.getElem_of_mem hf
        obtain ⟨t, ht⟩ : ∃ t, ts[i]? = some t := ⟨_, List.getElem?_eq_getElem (by omega)⟩
        obtain ⟨lv, f', e1, _, _, _, _, e6⟩ := h4 i t ht
        rw [List.getElem?_eq_getElem hi, e] at e1
        cases e1
        exact ih e6 g hgf

/-- The contract of the marks on a list. -/
def MkS (f d : Nat) : Prop := ∀ (v : Value) (ts : List (Tm d)) (fp : List Nat) (k : Int) (w : World), OwnL d w v ts fp → fp.Nodup → 0 ≤ k → k + 3 * (cntL d ts : Nat) ≤ 1099511627776 →
  Calls Try.prog f #[v, .int .i64 k] w fun e w' => e = .returned (.int .i64 (k + 3 * (cntL d ts : Nat))) ∧ OwnL d w' v (markL d k ts).1 fp ∧ Wrote fp w w'

/-- The first j terms of a row are marked, the others are as they were. -/
def Half (d : Nat) (ts : List (Tm (d + 1))) (k : Int) (j : Nat) (w : World) (cur : Array Value) (fps : List (List Nat)) : Prop :=
  ∀ (i : Nat) (t : Tm (d + 1)), ts[i]? = some t → ∃ lv f, fps[i]? = some f ∧
    (i < j → cur[i * 4]? = some (.int .i64 (k + 3 * (cntP d ts i : Nat))) ∧ cur[i * 4 + 1]? = some (.int .i64 (k + 3 * (cntP d ts i : Nat) + 1)) ∧ cur[i * 4 + 2]? = some (.string (mt (k + 3 * (cntP d ts i : Nat) + 2))) ∧ cur[i * 4 + 3]? = some lv ∧ OwnL d w lv (markL d (k + 3 * (cntP d ts i : Nat) + 3) t.L).1 f) ∧
    (j ≤ i → cur[i * 4]? = some (.int .i64 t.K) ∧ cur[i * 4 + 1]? = some (.int .i64 t.N) ∧ cur[i * 4 + 2]? = some (.string t.S) ∧ cur[i * 4 + 3]? = some lv ∧ OwnL d w lv t.L f)

theorem nodup_fl : ∀ (fps : List (List Nat)), fps.flatten.Nodup → (∀ f ∈ fps, f.Nodup) ∧ ∀ (i j : Nat) (f f' : List Nat), i < j → fps[i]? = some f → fps[j]? = some f' → ∀ x ∈ f, x ∉ f' := by
  intro fps
  induction fps with
  | nil => intro _; exact ⟨(fun f hf => by cases hf), (fun i j f f' _ h => by simp at h)⟩
  | cons a r ih =>
    intro h
    rw [List.flatten_cons, List.nodup_append] at h
    obtain ⟨h1, h2⟩ := ih h.2.1
    refine ⟨fun f hf => ?_, fun i j f f' hij hi hj x hx hx' => ?_⟩
    · rcases List.mem_cons.1 hf with rfl | hf
      · exact h.1
      · exact h1 f hf
    · cases j with
      | zero => omega
      | succ j =>
        simp only [List.getElem?_cons_succ] at hj
        cases i with
        | zero =>
          simp only [List.getElem?_cons_zero, Option.some.injEq] at hi
          subst hi
          exact h.2.2 x hx x (List.mem_flatten.2 ⟨f', List.mem_of_getElem? hj, hx'⟩) rfl
        | succ i =>
          simp only [List.getElem?_cons_succ] at hi
          exact h2 i j f f' (by omega) hi hj x hx hx'

theorem mk_step {d : Nat} {ts : List (Tm (d + 1))} {k : Int} {j g : Nat} {wr V V2 : World} {cur cur3 : Array Value} {fps : List (List Nat)} {t : Tm (d + 1)} {lv : Value} {f : List Nat}
    (hH : Half d ts k j wr cur fps) (ht : ts[j]? = some t) (hf : fps[j]? = some f) (hlv : cur[j * 4 + 3]? = some lv) (hnd : (g :: fps.flatten).Nodup)
    (hV : ∀ x, x < wr.heap.size → x ≠ g → V.heap[x]? = wr.heap[x]?) (hW : Wrote f V V2) (hVs : wr.heap.size ≤ V.heap.size) (hown : OwnL d V2 lv (markL d (k + 3 * (cntP d ts j : Nat) + 3) t.L).1 f)
    (c0 : cur3[j * 4]? = some (.int .i64 (k + 3 * (cntP d ts j : Nat)))) (c1 : cur3[j * 4 + 1]? = some (.int .i64 (k + 3 * (cntP d ts j : Nat) + 1))) (c2 : cur3[j * 4 + 2]? = some (.string (mt (k + 3 * (cntP d ts j : Nat) + 2))))
    (c3 : ∀ x, x < j * 4 ∨ j * 4 + 2 < x → cur3[x]? = cur[x]?) : Half d ts k (j + 1) V2 cur3 fps := by
  have hg : ∀ (i : Nat) (f' : List Nat), fps[i]? = some f' → g ∉ f' := fun i f' h hm => (List.nodup_cons.1 hnd).1 (List.mem_flatten.2 ⟨f', List.mem_of_getElem? h, hm⟩)
  have hdis : ∀ (i : Nat) (f' : List Nat), fps[i]? = some f' → i ≠ j → ∀ x ∈ f', x ∉ f := by
    intro i f' h hij x hx hxf
    have hp := (nodup_fl fps (List.nodup_cons.1 hnd).2).2
    rcases Nat.lt_or_gt_of_ne hij with hlt | hlt
    · exact hp i j f' f hlt h hf x hx hxf
    · exact hp j i f f' hlt hf h x hxf hx
  have keep : ∀ (i : Nat) (f' : List Nat) (lv' : Value) (l : List (Tm d)), fps[i]? = some f' → i ≠ j → OwnL d wr lv' l f' → OwnL d V2 lv' l f' := by
    intro i f' lv' l h hij ho
    refine ho.frame fun x hx => ?_
    have hxs := ho.lt x hx
    rw [hW.block x (by omega) (hdis i f' h hij x hx), hV x hxs (fun e => hg i f' h (e ▸ hx))]
  intro i u hu
  by_cases hij : i = j
  · subst hij
    rw [ht] at hu
    obtain rfl := Option.some.inj hu
    exact ⟨lv, f, hf, fun _ => ⟨c0, c1, c2, by rw [c3 _ (by omega)]; exact hlv, hown⟩, fun h => by omega⟩
  · obtain ⟨lv', f', e1, e2, e3⟩ := hH i u hu
    refine ⟨lv', f', e1, fun hlt => ?_, fun hge => ?_⟩
    · obtain ⟨a0, a1, a2, a3, a4⟩ := e2 (by omega)
      exact ⟨by rw [c3 _ (by omega)]; exact a0, by rw [c3 _ (by omega)]; exact a1, by rw [c3 _ (by omega)]; exact a2, by rw [c3 _ (by omega)]; exact a3, keep i f' lv' _ e1 hij a4⟩
    · obtain ⟨a0, a1, a2, a3, a4⟩ := e3 (by omega)
      exact ⟨by rw [c3 _ (by omega)]; exact a0, by rw [c3 _ (by omega)]; exact a1, by rw [c3 _ (by omega)]; exact a2, by rw [c3 _ (by omega)]; exact a3, keep i f' lv' _ e1 hij a4⟩

set_option maxHeartbeats 600000 in
theorem markTermS_any : ∀ d, MkS 71 d := by
  intro d
  induction d with
  | zero =>
    intro v ts fp k w hown hnd h0 h1
    obtain ⟨⟨a, c, rfl⟩, rfl⟩ := hown
    go_enter Try.func71, Try.ntmps71
    go_wp2
    refine wp_loop_rounds 1 ?_
    rw [rounds_succ]
    go_wp2
    go_ret
    exact ⟨tret1 (by show k = k + 3 * ((0 : Nat) : Int); omega), ⟨⟨a, c, rfl⟩, rfl⟩, Wrote.refl _ _⟩
  | succ d ih =>
    intro v ts fp k w hown hnd h0 h1
    rcases hown with ⟨rfl, rfl, a, c, rfl⟩ | ⟨g, c, cur0, fps, rfl, hh0, hfl, rfl, hel⟩
    · go_enter Try.func71, Try.ntmps71
      go_wp2
      refine wp_loop_rounds 1 ?_
      rw [rounds_succ]
      go_wp2
      go_ret
      exact ⟨tret1 (by show k = k + 3 * ((0 : Nat) : Int); omega), .inl ⟨rfl, rfl, a, c, rfl⟩, Wrote.refl _ _⟩
    · have HI : Hid (MkS 71 d) := ih
      have HND : Hid ((g :: fps.flatten).Nodup) := hnd
      have HH0 : Hid (Half d ts k 0 w cur0 fps) := fun i t ht => by
        obtain ⟨lv, f, e1, e2, e3, e4, e5, e6⟩ := hel i t ht
        exact ⟨lv, f, e1, fun h => by omega, fun _ => ⟨e2, e3, e4, e5, e6⟩⟩
      have HB : Hid (k + 3 * (cntL (d + 1) ts : Nat) ≤ 1099511627776) := h1
      have hlb : ts.length ≤ 1099511627776 := by
        have : ts.length ≤ cntL (d + 1) ts := by
          show ts.length ≤ (ts.map fun t => 1 + cntL d t.L).sum
          clear hel hfl h1 HH0 HB
          induction ts with
          | nil => simp
          | cons t r ih2 => simp only [List.length_cons, List.map_cons, List.sum_cons]; omega
        omega
      obtain ⟨len, hl⟩ : ∃ len, ts.length = len := ⟨_, rfl⟩
      have HL : Hid (ts.length = len) := hl
      have HFL : Hid (fps.length = ts.length) := hfl
      rw [hl] at hlb ⊢
      clear ih hel hl hnd hfl h1
      go_enter Try.func71, Try.ntmps71
      go_wp2_with fail
      go_loopw [1, 5] (fun x i wr => ∃ (j : Nat) (cur : Array Value), j ≤ len ∧ i = .int .i64 j ∧ x = .int .i64 (k + 3 * (cntP d ts j : Nat)) ∧ wr.heap[g]? = some (.cells cur 53 (0, 0)) ∧ Hid (Half d ts k j wr cur fps) ∧ Wrote (g :: fps.flatten) w wr) (fun _ i _ => len - (intOf i).toNat)
      case atStart => exact ⟨0, cur0, Nat.zero_le _, rfl, by show Value.int .i64 k = .int .i64 (k + 3 * ((0 : Nat) : Int)); rw [show k + 3 * ((0 : Nat) : Int) = k from by omega], hh0, HH0, Wrote.refl _ _⟩
      case round =>
        obtain ⟨j, cur, hj, rfl, rfl, hh, HHf, hwr⟩ := hrel
        obtain ⟨q, hq⟩ : ∃ q, k + 3 * (cntP d ts j : Nat) = q := ⟨_, rfl⟩
        have HQ : Hid (k + 3 * (cntP d ts j : Nat) = q) := hq
        have hq0 : 0 ≤ q := by omega
        have hq1 : q ≤ 1099511627776 := by have := cntP_le d ts j; have := HB.out; omega
        rw [hq]
        clear hq
        by_cases hjl : j < len
        · obtain ⟨t, ht⟩ : ∃ t, ts[j]? = some t := ⟨_, List.getElem?_eq_getElem (by rw [HL.out]; exact hjl)⟩
          obtain ⟨lv, f, ef, _, e2⟩ := HHf.out j t ht
          obtain ⟨k0, k1, k2, k3, ho⟩ := e2 (Nat.le_refl _)
          obtain ⟨xa, xl, xc, hxs⟩ := ho.rd.shape
          rw [hxs] at k3 ho
          have hcnt : q + 3 + 3 * (cntL d t.L : Nat) ≤ 1099511627776 := by
            have h7 := cntP_succ d ts j t ht; have h8 := cntP_le d ts (j + 1); have h9 := HB.out; have := HQ.out; omega
          have HN : Hid (k + 3 * (cntP d ts (j + 1) : Nat) = q + 1 + 1 + 1 + 3 * (cntL d t.L : Nat)) := by have h7 := cntP_succ d ts j t ht; have := HQ.out; show _ = _; omega
          have hsz : j * 4 + 3 < cur.size := (Array.getElem?_eq_some_iff.1 k3).1
          have hgs : g < wr.heap.size := Nat.lt_of_not_le fun hn => by simp [Array.getElem?_eq_none hn] at hh
          have s0 : wr.cell? ⟨g, j * 4, none⟩ = some (.int .i64 t.K) := by rw [cell_of_row wr _ _ _ _ _ hh]; exact k0
          have s1 : wr.cell? ⟨g, j * 4 + 1, none⟩ = some (.int .i64 t.N) := by rw [cell_of_row wr _ _ _ _ _ hh]; exact k1
          have z0 : wr.frozen? ⟨g, j * 4, none⟩ = false := frozen_of_row wr _ _ _ _ hh
          have z1 : wr.frozen? ⟨g, j * 4 + 1, none⟩ = false := frozen_of_row wr _ _ _ _ hh
          have hA1 := heap_setCell_same wr g (j * 4) cur 53 (.int .i64 q) hh
          have hA2 := heap_setCell_same _ g (j * 4 + 1) _ 53 (.int .i64 (q + 1)) hA1
          obtain ⟨W2, hW2⟩ : ∃ W2, W2 = (wr.setCell ⟨g, j * 4, none⟩ (.int .i64 q)).setCell ⟨g, j * 4 + 1, none⟩ (.int .i64 (q + 1)) := ⟨_, rfl⟩
          have hO : ∀ x, x ≠ g → W2.heap[x]? = wr.heap[x]? := fun x hx => by rw [hW2, heap_setCell_other _ _ _ _ (by simpa using hx), heap_setCell_other _ _ _ _ (by simpa using hx)]
          have hZ : W2.heap.size = wr.heap.size := by rw [hW2]; simp
          have hWr2 : Wrote [g] wr W2 := by rw [hW2]; exact (Wrote.of_set wr g (j * 4) _).trans (Wrote.of_set _ g (j * 4 + 1) _)
          rw [← hW2] at hA2
          have hC := markText_any (q + 1 + 1) W2 (by omega) (by omega)
          rw [hW2] at hC
          have HW2 : Hid (W2 = _) := hW2
          have HA2 : Hid (W2.heap[g]? = _) := hA2
          have HOo : Hid (OwnL d wr (.slice xa xl xc) t.L f) := ho
          have HK : Hid (ts[j]? = some t ∧ fps[j]? = some f ∧ cur[j * 4 + 3]? = some (.slice xa xl xc)) := ⟨ht, ef, k3⟩
          have HHh : Hid (wr.heap[g]? = some (.cells cur 53 (0, 0))) := hh
          clear hA1 hA2 hW2 ho ht ef k0 k1 k2 k3 e2 hxs hh
          go_wp2_with fail
          refine hC.mono ?_
          clear hC
          rintro e V ⟨rfl, hBV⟩
          rw [← HW2.out] at hBV
          have hhV : V.heap[g]? = _ := (hBV.block g (by omega)).trans HA2.out
          have t2 : ∃ v, V.cell? ⟨g, j * 4 + 2, none⟩ = some v := by rw [cell_of_row V _ _ _ _ _ hhV]; exact ⟨_, Array.getElem?_eq_getElem (by simp; omega)⟩
          obtain ⟨v2, t2⟩ := t2
          have t3 : V.cell? ⟨g, j * 4 + 3, none⟩ = some (.slice xa xl xc) := by
            rw [cell_of_row V _ _ _ _ _ hhV, Array.getElem?_setIfInBounds_ne (by omega), Array.getElem?_setIfInBounds_ne (by omega)]; exact HK.out.2.2
          have zz2 : V.frozen? ⟨g, j * 4 + 2, none⟩ = false := frozen_of_row V _ _ _ _ hhV
          have hA3 := heap_setCell_same V g (j * 4 + 2) _ 53 (.string (mt (q + 1 + 1))) hhV
          obtain ⟨W3, hW3⟩ : ∃ W3, W3 = V.setCell ⟨g, j * 4 + 2, none⟩ (.string (mt (q + 1 + 1))) := ⟨_, rfl⟩
          rw [← hW3] at hA3
          have hO3 : ∀ x, x < wr.heap.size → x ≠ g → W3.heap[x]? = wr.heap[x]? := fun x hx hne => by rw [hW3, heap_setCell_other _ _ _ _ (by simpa using hne), hBV.block x (by omega), hO x hne]
          have hZ3 : wr.heap.size ≤ W3.heap.size := by rw [hW3]; have := hBV.size; simp; omega
          have hWr3 : Wrote (g :: fps.flatten) w W3 := hwr.trans (((hWr2.trans (Wrote.of_below hBV)).trans (by rw [hW3]; exact Wrote.of_set V g (j * 4 + 2) _)).mono fun x hx => by simp at hx; simp [hx])
          have hgf : g ∉ f := fun hm => (List.nodup_cons.1 HND.out).1 (List.mem_flatten.2 ⟨f, List.mem_of_getElem? HK.out.2.1, hm⟩)
          have hfn : f.Nodup := (nodup_fl fps (List.nodup_cons.1 HND.out).2).1 f (List.mem_of_getElem? HK.out.2.1)
          have ho3 : OwnL d W3 (.slice xa xl xc) t.L f := HOo.out.frame fun x hx => hO3 x (HOo.out.lt x hx) (fun e => hgf (e ▸ hx))
          have hC2 := HI.out (.slice xa xl xc) t.L f (q + 1 + 1 + 1) W3 ho3 hfn (by omega) (by omega)
          have HW3 : Hid (W3 = _) := hW3
          have HA3 : Hid (W3.heap[g]? = _) := hA3
          have HP3 : Hid ((∀ x, x < wr.heap.size → x ≠ g → W3.heap[x]? = wr.heap[x]?) ∧ wr.heap.size ≤ W3.heap.size ∧ Wrote (g :: fps.flatten) w W3 ∧ g ∉ f) := ⟨hO3, hZ3, hWr3, hgf⟩
          rw [hW3] at hC2
          clear hW3 hA3 ho3 hO3 hZ3 hWr3 hfn hBV hhV s0 s1 z0 z1 hO hZ hWr2 HW2
          go_wp2_with fail
          refine hC2.mono ?_
          clear hC2
          rintro e V2 ⟨rfl, hown2, hwr2⟩
          rw [← HW3.out] at hwr2
          have hg3 : g < W3.heap.size := by have := HP3.out.2.1; omega
          have hhF : V2.heap[g]? = _ := (hwr2.block g hg3 HP3.out.2.2.2).trans HA3.out
          have hwF : Wrote (g :: fps.flatten) w V2 := HP3.out.2.2.1.trans (hwr2.mono fun x hx => List.mem_cons_of_mem _ (List.mem_flatten.2 ⟨f, List.mem_of_getElem? HK.out.2.1, hx⟩))
          have HHN : Hid (Half d ts k (j + 1) V2 _ fps) := mk_step (g := g) HHf.out HK.out.1 HK.out.2.1 HK.out.2.2 HND.out HP3.out.1 hwr2 HP3.out.2.1 (by rw [HQ.out, show q + 3 = q + 1 + 1 + 1 from by omega]; exact hown2)
            (cur3 := ((cur.setIfInBounds (j * 4) (.int .i64 q)).setIfInBounds (j * 4 + 1) (.int .i64 (q + 1))).setIfInBounds (j * 4 + 2) (.string (mt (q + 1 + 1))))
            (by rw [HQ.out, Array.getElem?_setIfInBounds_ne (by omega), Array.getElem?_setIfInBounds_ne (by omega), Array.getElem?_setIfInBounds_self]; simp; omega)
            (by rw [HQ.out, Array.getElem?_setIfInBounds_ne (by omega), Array.getElem?_setIfInBounds_self]; simp; omega)
            (by rw [HQ.out, show q + 2 = q + 1 + 1 from by omega, Array.getElem?_setIfInBounds_self]; simp; omega)
            (fun x hx => by rw [Array.getElem?_setIfInBounds_ne (by omega), Array.getElem?_setIfInBounds_ne (by omega), Array.getElem?_setIfInBounds_ne (by omega)])
          have HHF : Hid (V2.heap[g]? = _) := hhF
          clear hown2 hwr2 hhF t2 t3 zz2
          go_wp2
          go_roundw
          case rel => exact ⟨j + 1, _, by omega, by go_num, by rw [HN.out], HHF.out, HHN, hwF⟩
          case measure => simp [intOf]; omega
        · have hjn : ts.length ≤ j := by have := HL.out; omega
          have HF : Hid (q = k + 3 * (cntL (d + 1) ts : Nat)) := by rw [← HQ.out, cntP_all d ts j hjn]; exact rfl
          have HO : Hid (OwnL (d + 1) wr (.slice (some ⟨g, 0, none⟩) len c) (markL (d + 1) k ts).1 (g :: fps.flatten)) := by
            have hln : (markL (d + 1) k ts).1.length = ts.length := markList_len _ ts k
            refine .inr ⟨g, c, cur, fps, by rw [hln, HL.out], hh, by rw [hln]; exact HFL.out, rfl, fun i u hu => ?_⟩
            rw [markL_at] at hu
            obtain ⟨t, ht, rfl⟩ := Option.map_eq_some_iff.1 hu
            obtain ⟨lv, f, ef, e2, _⟩ := HHf.out i t ht
            obtain ⟨a0, a1, a2, a3, a4⟩ := e2 (by have := (List.getElem?_eq_some_iff.1 ht).1; omega)
            exact ⟨lv, f, ef, a0, a1, a2, a3, a4⟩
          clear hh HHf
          go_wp2
          go_ret
          exact ⟨tret1 HF.out, HO.out, hwr⟩

end Go.Proofs.Ytgmddookohkhlaa
