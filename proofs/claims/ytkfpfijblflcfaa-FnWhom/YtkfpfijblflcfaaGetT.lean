/- What is read of bytes as a term, and how a list of terms is built in new memory one by one. -/
import Derived.Test.YtkfpfijblflcfaaText
import Derived.Test.YtkfpfijblflcfaaMarkT
import Derived.Test.YtkfpfijblflcfaaLook
import Derived.Maps.AppendAt
namespace Go.Proofs.Ytkfpfijblflcfaa
open Go.RowKit
set_option linter.unusedVariables false

/-- So many read one behind the other. -/
def getL {α : Type} (f : Int → Option (α × Int)) : Nat → Int → Option (List α × Int)
  | 0, q => some ([], q)
  | m + 1, q => match getL f m q with
    | none => none
    | some (ts, r) => match f r with
      | none => none
      | some (t, r') => some (ts ++ [t], r')

/-- What is read behind a kind. -/
def getB {m : Nat} (zs : List Int) (f : Int → Option (Tm m × Int)) (k p : Int) : Option ((Int × Int × ByteArray × List (Tm m)) × Int) :=
  if k = 1 ∨ k = 3 then (if (getNum zs p).2.2 = true then some ((k, (getNum zs p).1, ByteArray.empty, []), (getNum zs p).2.1) else none)
  else if k = 2 then (if (getText zs p).2.2 = true then some ((k, 0, strOfNums (getText zs p).1, []), (getText zs p).2.1) else none)
  else if (k = 4 ∨ k = 5) ∧ (getNum zs p).2.2 = true ∧ 0 ≤ (getNum zs p).1 ∧ (getNum zs p).1 ≤ 60 then
    (match getL f (getNum zs p).1.toNat (getNum zs p).2.1 with
      | none => none
      | some (ts, r) => some ((k, 0, ByteArray.empty, ts), r))
  else none

/-- A term of at most m storeys, read at a place. -/
def getT (zs : List Int) : (m : Nat) → Int → Option (Tm m × Int)
  | 0, _ => none
  | m + 1, p => if (getNum zs p).2.2 = true then getB zs (getT zs m) (getNum zs p).1 (getNum zs p).2.1 else none

/-- A term in memory of the call's own. -/
def OwnT : (m : Nat) → World → Value → Tm m → List Nat → Prop
  | 0, _, _, _, _ => False
  | m + 1, w, v, t, fp => ∃ a l c, v = .agg #[.int .i64 t.K, .int .i64 t.N, .string t.S, .slice a l c] ∧ OwnL m w (.slice a l c) t.L fp
/-- A term that is right, all storeys. -/
def OkT : (m : Nat) → Tm m → Prop
  | 0, _ => False
  | m + 1, t => Shape t.K t.N t.S t.L.length ∧ OkL m t.L
/-- What every term in memory is within. -/
def WfT : (m : Nat) → Tm m → Prop
  | 0, _ => False
  | m + 1, t => I64 t.K ∧ I64 t.N ∧ t.S.size ≤ maxLen ∧ WfL m t.L

/-- What came of a reading: the term, or one that isn't right where there is none. -/
def Came (zs : List Int) (m : Nat) (p : Int) (t : Tm m) (q : Int) : Prop := getT zs m p = some (t, q) ∨ (getT zs m p = none ∧ ¬ OkT m t)
/-- What came of the reading of a list. -/
def CameL (zs : List Int) (m j : Nat) (p : Int) (ts : List (Tm m)) (q : Int) : Prop := getL (getT zs m) j p = some (ts, q) ∨ (getL (getT zs m) j p = none ∧ ¬ OkL m ts)

theorem getL_none {α : Type} {f : Int → Option (α × Int)} {p : Int} : ∀ {j i : Nat}, getL f j p = none → j ≤ i → getL f i p = none := by
  intro j i h hi
  induction i with
  | zero => obtain rfl : j = 0 := by omega
            exact h
  | succ i ih =>
    by_cases he : j = i + 1
    · rw [← he]; exact h
    · have := ih (by omega)
      show (match getL f i p with | none => none | some (ts, r) => _) = none
      rw [this]

theorem getL_succ {α : Type} {f : Int → Option (α × Int)} {p r r' : Int} {j : Nat} {ts : List α} {t : α} (h : getL f j p = some (ts, r)) (h2 : f r = some (t, r')) : getL f (j + 1) p = some (ts ++ [t], r') := by
  show (match getL f j p with | none => none | some (ts, r) => match f r with | none => none | some (t, r') => some (ts ++ [t], r')) = _
  rw [h]
  show (match f r with | none => none | some (t, r') => some (ts ++ [t], r')) = _
  rw [h2]
theorem getL_fail {α : Type} {f : Int → Option (α × Int)} {p r : Int} {j : Nat} {ts : List α} (h : getL f j p = some (ts, r)) (h2 : f r = none) : getL f (j + 1) p = none := by
  show (match getL f j p with | none => none | some (ts, r) => match f r with | none => none | some (t, r') => some (ts ++ [t], r')) = _
  rw [h]
  show (match f r with | none => none | some (t, r') => some (ts ++ [t], r')) = _
  rw [h2]

theorem okL_mem : ∀ {m : Nat} {ts : List (Tm m)}, OkL m ts → ∀ t ∈ ts, OkT m t := by
  intro m ts h t ht
  cases m with
  | zero => exact Empty.elim t
  | succ m => exact h t ht
theorem okL_left {m : Nat} {ts us : List (Tm m)} (h : OkL m (ts ++ us)) : OkL m ts := by
  cases m with
  | zero => trivial
  | succ m => exact fun t ht => h t (List.mem_append_left _ ht)

theorem came_step {zs : List Int} {m j : Nat} {p q q' : Int} {ts : List (Tm m)} {t : Tm m} (h : CameL zs m j p ts q) (h2 : Came zs m q t q') : CameL zs m (j + 1) p (ts ++ [t]) q' := by
  rcases h with h | ⟨h, hn⟩
  · rcases h2 with h2 | ⟨h2, hn⟩
    · exact .inl (getL_succ h h2)
    · exact .inr ⟨getL_fail h h2, fun ho => hn (okL_mem ho t (by simp))⟩
  · exact .inr ⟨getL_none h (by omega), fun ho => hn (okL_left ho)⟩
theorem came_fail {zs : List Int} {m j : Nat} {p q : Int} {ts : List (Tm m)} (h : CameL zs m j p ts q) (h2 : getT zs m q = none) : getL (getT zs m) (j + 1) p = none := by
  rcases h with h | ⟨h, hn⟩
  · exact getL_fail h h2
  · exact getL_none h (by omega)

/-- The terms of a row lie in its cells, and what hangs on each is the call's own. -/
def ElemsAt : (m : Nat) → World → List (Tm m) → List Value → List (List Nat) → Prop
  | 0, _, _, _, _ => True
  | m + 1, w, ts, cs, fps => ∀ (i : Nat) (u : Tm (m + 1)), ts[i]? = some u → ∃ lv f, fps[i]? = some f ∧ cs[i * 4]? = some (.int .i64 u.K) ∧ cs[i * 4 + 1]? = some (.int .i64 u.N) ∧ cs[i * 4 + 2]? = some (.string u.S) ∧ cs[i * 4 + 3]? = some lv ∧ OwnL m w lv u.L f

/-- A list of terms under way: its row and all that hangs on it are the call's own. -/
def Made (m B : Nat) (w : World) (v : Value) (ts : List (Tm m)) (fp : List Nat) : Prop :=
  ∃ (cs : List Value) (fps : List (List Nat)), w.ownsRow B 41 4 v ts.length cs ∧ fps.length = ts.length ∧ fp = v.ownBlock.toList ++ fps.flatten ∧ Fresh B w fp ∧ WfL m ts ∧ ElemsAt m w ts cs fps

theorem made_nil (m B : Nat) (w : World) : Made m B w (.slice none 0 0) ([] : List (Tm m)) [] := by
  refine ⟨[], [], ⟨rfl, .inl ⟨rfl, rfl⟩⟩, rfl, rfl, ⟨List.nodup_nil, fun g h => by cases h⟩, ?_, ?_⟩
  · cases m with
    | zero => trivial
    | succ m => exact ⟨Nat.zero_le _, fun t h => by cases h⟩
  · cases m with
    | zero => trivial
    | succ m => exact fun i u hu => by simp at hu

theorem take_at {α : Type} {l xs : List α} {n i : Nat} {x : α} (h : l.take n = xs) (hx : xs[i]? = some x) : l[i]? = some x := by
  rw [← h] at hx
  rw [List.getElem?_take] at hx
  split at hx
  · exact hx
  · cases hx

theorem rowKept {w w' : World} {B e z n : Nat} {v : Value} {xs : List Value} (h : w.ownsRow B e z v n xs) (hb : ∀ g, v.ownBlock = some g → w'.heap[g]? = w.heap[g]?) : w'.ownsRow B e z v n xs := by
  obtain ⟨h1, h2⟩ := h
  refine ⟨h1, ?_⟩
  rcases h2 with h2 | ⟨g, c, cur, e1, e2, e3, e4⟩
  · exact .inl h2
  · exact .inr ⟨g, c, cur, e1, e2, (hb g (by rw [e1]; rfl)).trans e3, e4⟩

theorem ElemsAt.frame {m : Nat} {w w' : World} {ts : List (Tm m)} {cs : List Value} {fps : List (List Nat)} (h : ElemsAt m w ts cs fps) (hb : ∀ g ∈ fps.flatten, w'.heap[g]? = w.heap[g]?) : ElemsAt m w' ts cs fps := by
  cases m with
  | zero => trivial
  | succ m =>
    intro i u hu
    obtain ⟨lv, f, q1, q2, q3, q4, q5, q6⟩ := h i u hu
    exact ⟨lv, f, q1, q2, q3, q4, q5, q6.frame fun g hg => hb g (List.mem_flatten.2 ⟨f, List.mem_of_getElem? q1, hg⟩)⟩

/-- It stays where its blocks do. -/
theorem Made.frame {m B : Nat} {w w' : World} {v : Value} {ts : List (Tm m)} {fp : List Nat} (h : Made m B w v ts fp) (hb : ∀ g ∈ fp, w'.heap[g]? = w.heap[g]?) (hz : w.heap.size ≤ w'.heap.size) : Made m B w' v ts fp := by
  obtain ⟨cs, fps, h1, h2, h3, h4, h5, h6⟩ := h
  subst h3
  refine ⟨cs, fps, rowKept h1 fun g hg => hb g (List.mem_append_left _ (by rw [hg]; exact List.mem_singleton.2 rfl)), h2, rfl, ⟨h4.1, fun g hg => ⟨(h4.2 g hg).1, Nat.lt_of_lt_of_le (h4.2 g hg).2 hz⟩⟩, h5, h6.frame fun g hg => hb g (List.mem_append_right _ hg)⟩

/-- As it is handed out. -/
theorem Made.own {m B : Nat} {w : World} {v : Value} {ts : List (Tm m)} {fp : List Nat} (h : Made m B w v ts fp) : ∃ a l c fp', v = .slice a l c ∧ OwnL m w v ts fp' ∧ Fresh B w fp' ∧ WfL m ts := by
  obtain ⟨cs, fps, h1, h2, h3, h4, h5, h6⟩ := h
  rcases h1.2 with ⟨rfl, e⟩ | ⟨g, c, cur, e1, e2, e3, e4, e5, e6, e7⟩
  · refine ⟨none, 0, 0, [], rfl, ?_, ⟨List.nodup_nil, fun g h => by cases h⟩, h5⟩
    cases m with
    | zero => exact ⟨⟨none, 0, rfl⟩, rfl⟩
    | succ m => exact .inl ⟨List.length_eq_zero_iff.1 e, rfl, none, 0, rfl⟩
  · cases m with
    | zero =>
      have hz : ts.length = 0 := by
        cases ts with
        | nil => rfl
        | cons t _ => exact Empty.elim t
      exact ⟨_, _, _, [], e1, ⟨⟨_, c, by rw [e1, hz]⟩, rfl⟩, ⟨List.nodup_nil, fun g h => by cases h⟩, h5⟩
    | succ m =>
      refine ⟨_, _, _, fp, e1, .inr ⟨g, c, cur, fps, e1, e3, h2, by rw [h3, e1]; rfl, fun i u hu => ?_⟩, h4, h5⟩
      obtain ⟨lv, f, q1, q2, q3, q4, q5, q6⟩ := h6 i u hu
      have hc : ∀ {j x}, cs[j]? = some x → cur[j]? = some x := fun hx => by rw [← Array.getElem?_toList]; exact take_at e7 hx
      exact ⟨lv, f, q1, hc q2, hc q3, hc q4, hc q5, q6⟩

/-- One term more: the row is the old one or a new block; what hangs on it stays. -/
theorem made_step {m B : Nat} {w w' : World} {v v' : Value} {ts : List (Tm (m + 1))} {t : Tm (m + 1)} {fps : List (List Nat)} {f : List Nat} {cs : List Value} {lv : Value}
    (hrow : w.ownsRow B 41 4 v ts.length cs) (hfl : fps.length = ts.length) (hF : Fresh B w (v.ownBlock.toList ++ fps.flatten)) (hW : WfL (m + 1) ts) (hel : ElemsAt (m + 1) w ts cs fps)
    (ht : OwnL m w lv t.L f) (hf : Fresh B w f) (hd : ∀ g ∈ f, g ∉ v.ownBlock.toList ++ fps.flatten) (hwt : WfT (m + 1) t) (hln : ts.length < 9223372036854775807) (hBz : B ≤ w.heap.size)
    (hown : w'.ownsRow B 41 4 v' (ts.length + 1) (cs ++ [.int .i64 t.K, .int .i64 t.N, .string t.S, lv])) (hgr : w.grownBy w' v.ownBlock) (hat : v'.ownBlock = v.ownBlock ∨ v'.ownBlock = some w.heap.size) :
    ∃ fp', Made (m + 1) B w' v' (ts ++ [t]) fp' ∧ (∀ g ∈ fp', g ∈ v.ownBlock.toList ++ fps.flatten ∨ g ∈ f ∨ w.heap.size ≤ g) := by
  rcases hown.2 with ⟨_, e⟩ | ⟨g', c', cur', e1, e2, e3, e4, e5, e6, e7⟩
  · omega
  have hz' : g' < w'.heap.size := Nat.lt_of_not_le fun hn => by rw [Array.getElem?_eq_none hn] at e3; cases e3
  have hcl : cs.length = ts.length * 4 := hrow.1
  have hlen' : (ts ++ [t]).length = ts.length + 1 := by simp
  have hob : v'.ownBlock = some g' := by rw [e1]; rfl
  have hnd := List.nodup_append.1 hF.1
  have hkeep : ∀ x, (x ∈ fps.flatten ∨ x ∈ f) → x < w.heap.size ∧ w'.heap[x]? = w.heap[x]? ∧ x ≠ g' ∧ B ≤ x := fun x hx => by
    have hlt : B ≤ x ∧ x < w.heap.size := by
      rcases hx with hx | hx
      · exact hF.2 x (List.mem_append_right _ hx)
      · exact hf.2 x hx
    have hno : some x ≠ v.ownBlock := fun e => by
      have hm : x ∈ v.ownBlock.toList := by rw [← e]; exact List.mem_singleton.2 rfl
      rcases hx with hx | hx
      · exact hnd.2.2 x hm x hx rfl
      · exact hd x hx (List.mem_append_left _ hm)
    refine ⟨hlt.2, hgr.block x hlt.2 hno, fun e => ?_, hlt.1⟩
    rcases hat with hat | hat
    · exact hno (by rw [← hat, hob, e])
    · rw [hob] at hat
      have : g' = w.heap.size := by simpa using hat
      omega
  refine ⟨g' :: (fps ++ [f]).flatten, ⟨cs ++ [.int .i64 t.K, .int .i64 t.N, .string t.S, lv], fps ++ [f], by rw [hlen']; exact hown, by simp [hfl], by rw [hob]; rfl, ⟨?_, fun g hg => ?_⟩, ⟨by rw [hlen']; omega, fun u hu => ?_⟩, fun i u hu => ?_⟩, fun g hg => ?_⟩
  · rw [List.flatten_append, List.nodup_cons, List.nodup_append]
    refine ⟨fun hm => ?_, hnd.2.1, by simpa using hf.1, fun x hx y hy => ?_⟩
    · rcases List.mem_append.1 hm with hm | hm
      · exact (hkeep g' (.inl hm)).2.2.1 rfl
      · exact (hkeep g' (.inr (by simpa using hm))).2.2.1 rfl
    · intro e
      exact hd y (by simpa using hy) (List.mem_append_right _ (by rw [← e]; exact hx))
  · rcases List.mem_cons.1 hg with rfl | hg
    · exact ⟨e2, hz'⟩
    · rw [List.flatten_append] at hg
      have := hkeep g (by
        rcases List.mem_append.1 hg with hg | hg
        · exact .inl hg
        · exact .inr (by simpa using hg))
      exact ⟨this.2.2.2, Nat.lt_of_lt_of_le this.1 hgr.size⟩
  · rcases List.mem_append.1 hu with hu | hu
    · exact hW.2 u hu
    · rw [List.mem_singleton] at hu; rw [hu]; exact hwt
  · by_cases hi : i < ts.length
    · rw [List.getElem?_append_left hi] at hu
      obtain ⟨lv', f', q1, q2, q3, q4, q5, q6⟩ := hel i u hu
      have hc : ∀ {j x}, cs[j]? = some x → (cs ++ [.int .i64 t.K, .int .i64 t.N, .string t.S, lv])[j]? = some x := fun {j x} hx => by rw [List.getElem?_append_left (List.getElem?_eq_some_iff.1 hx).1]; exact hx
      exact ⟨lv', f', by rw [List.getElem?_append_left (by omega)]; exact q1, hc q2, hc q3, hc q4, hc q5, q6.frame fun g hg => (hkeep g (.inl (List.mem_flatten.2 ⟨f', List.mem_of_getElem? q1, hg⟩))).2.1⟩
    · have hi2 : i = ts.length := by
        have := (List.getElem?_eq_some_iff.1 hu).1
        omega
      subst hi2
      have hut : u = t := by simpa using hu.symm
      subst hut
      refine ⟨lv, f, by rw [← hfl]; simp, ?_, ?_, ?_, ?_, ht.frame fun g hg => (hkeep g (.inr hg)).2.1⟩
      · rw [List.getElem?_append_right (by omega), hcl, Nat.sub_self]; rfl
      · rw [List.getElem?_append_right (by omega), hcl, show ts.length * 4 + 1 - ts.length * 4 = 1 from by omega]; rfl
      · rw [List.getElem?_append_right (by omega), hcl, show ts.length * 4 + 2 - ts.length * 4 = 2 from by omega]; rfl
      · rw [List.getElem?_append_right (by omega), hcl, show ts.length * 4 + 3 - ts.length * 4 = 3 from by omega]; rfl
  · rcases List.mem_cons.1 hg with rfl | hg
    · rcases hat with hat | hat
      · exact .inl (List.mem_append_left _ (by rw [← hat, hob]; exact List.mem_singleton.2 rfl))
      · rw [hob] at hat
        have : g = w.heap.size := by simpa using hat
        exact .inr (.inr (by omega))
    · rw [List.flatten_append] at hg
      rcases List.mem_append.1 hg with hg | hg
      · exact .inl (List.mem_append_right _ hg)
      · exact .inr (.inl (by simpa using hg))

end Go.Proofs.Ytkfpfijblflcfaa
