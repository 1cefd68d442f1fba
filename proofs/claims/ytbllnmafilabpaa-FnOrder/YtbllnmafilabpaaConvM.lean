/- A right term comes back of its bytes, as data; a term of fewer storeys as one of more. -/
import Derived.Test.YtbllnmafilabpaaCanonM
import Derived.Test.YtbllnmafilabpaaPutM
import Derived.Test.YtbllnmafilabpaaTPutSM
import Derived.Test.YtbllnmafilabpaaMOf4M
namespace Go.Proofs.Ytbllnmafilabpaa
open Go.RowKit
set_option linter.unusedVariables false

theorem getText_put2 (xs R : List Int) (s : ByteArray) (hs : s.size ≤ 1000000000000) : getText (xs ++ put s ++ R) xs.length = (nums s, ((xs.length + (put s).length : Nat) : Int), true) := by
  have hn := getNum_put xs (nums s ++ R) s.size
  have hcl : clamp s.size = s.size := by unfold clamp; rw [if_neg (by omega), if_neg (by omega)]
  rw [hcl] at hn
  have e : xs ++ put s ++ R = xs ++ enc (code s.size) ++ (nums s ++ R) := by simp [put, List.append_assoc]
  have hl := nums_length s
  unfold getText
  rw [e, hn]
  simp only [Int.toNat_natCast]
  rw [if_pos ⟨trivial, by omega, by simp; omega⟩]
  have ed : (xs ++ enc (code s.size) ++ (nums s ++ R)).drop (xs.length + (enc (code s.size)).length) = nums s ++ R := by
    rw [← List.length_append, List.drop_left]
  rw [ed, List.take_left' hl]
  simp [put, hl]
  omega

theorem getL_put {m : Nat} (f : Int → Option (Tm m × Int)) (zs : List Int) (ts : List (Tm m)) (xs R : List Int) (hz : zs = xs ++ ts.flatMap (encTm m) ++ R)
    (hf : ∀ t ∈ ts, ∀ xs R : List Int, zs = xs ++ encTm m t ++ R → f xs.length = some (t, ((xs.length + (encTm m t).length : Nat) : Int))) : getL f ts.length xs.length = some (ts, ((xs.length + (ts.flatMap (encTm m)).length : Nat) : Int)) := by
  have H : ∀ j, j ≤ ts.length → getL f j xs.length = some (ts.take j, ((xs.length + ((ts.take j).flatMap (encTm m)).length : Nat) : Int)) := by
    intro j
    induction j with
    | zero => intro _; simp [getL]
    | succ j ih =>
      intro hj
      have h1 := ih (by omega)
      have hd : ts.take (j + 1) = ts.take j ++ [ts[j]] := List.take_succ_eq_append_getElem (by omega)
      have hs : ts = ts.take j ++ ([ts[j]] ++ ts.drop (j + 1)) := by
        rw [← List.append_assoc, ← hd, List.take_append_drop]
      have hz2 : zs = (xs ++ (ts.take j).flatMap (encTm m)) ++ encTm m ts[j] ++ ((ts.drop (j + 1)).flatMap (encTm m) ++ R) := by
        have hfl : ts.flatMap (encTm m) = (ts.take j).flatMap (encTm m) ++ (encTm m ts[j] ++ (ts.drop (j + 1)).flatMap (encTm m)) := by
          have := congrArg (List.flatMap (encTm m)) hs
          rw [List.flatMap_append, List.flatMap_append, List.flatMap_singleton] at this
          exact this
        rw [hz, hfl]
        simp [List.append_assoc]
      have h2 := hf ts[j] (List.getElem_mem (by omega)) _ _ hz2
      rw [List.length_append] at h2
      rw [getL_succ h1 h2, hd, List.flatMap_append, List.flatMap_singleton, List.length_append, Nat.add_assoc]
  have := H ts.length (Nat.le_refl _)
  rwa [List.take_length] at this

theorem getT_num {zs : List Int} {m : Nat} {p k q : Int} (h : getNum zs p = (k, q, true)) : getT zs (m + 1) p = getB zs (getT zs m) k q := by
  show (if (getNum zs p).2.2 = true then getB zs (getT zs m) (getNum zs p).1 (getNum zs p).2.1 else none : Option ((Int × Int × ByteArray × List (Tm m)) × Int)) = _
  rw [h, if_pos rfl]

theorem empty_of {s : ByteArray} (h : s.size = 0) : s = ByteArray.empty := by
  have h2 : nums s = [] := List.length_eq_zero_iff.1 (by rw [nums_length]; exact h)
  rw [← strOfNums_nums s, h2]
  rfl

theorem clamp_in {n : Int} (h : -1000000000000 ≤ n ∧ n ≤ 1000000000000) : clamp n = n := by unfold clamp; rw [if_neg (by omega), if_neg (by omega)]

theorem getT_put (zs : List Int) : ∀ (m : Nat) (t : Tm m) (xs R : List Int), OkT m t → zs = xs ++ encTm m t ++ R → getT zs m xs.length = some (t, ((xs.length + (encTm m t).length : Nat) : Int)) := by
  intro m
  induction m with
  | zero => intro t; exact Empty.elim t
  | succ m ih =>
    rintro ⟨k, n, s, ts⟩ xs R ⟨hsh, hok⟩ hz
    change Shape k n s ts.length at hsh
    change OkL m ts at hok
    change zs = xs ++ encT m k n s ts ++ R at hz
    show getT zs (m + 1) xs.length = some ((k, n, s, ts), ((xs.length + (encT m k n s ts).length : Nat) : Int))
    have hk : clamp k = k := by rcases hsh with ⟨h, _⟩ | ⟨h, _⟩ | ⟨h, _⟩ | ⟨h, _⟩ | ⟨h, _⟩ <;> (rw [h]; rfl)
    have hN := getNum_put xs (bodyE k n s ts.length (encL m ts) ++ R) k
    have e : xs ++ enc (code k) ++ (bodyE k n s ts.length (encL m ts) ++ R) = zs := by rw [hz]; simp [encT, List.append_assoc]
    rw [e, hk] at hN
    have hp : zs = (xs ++ enc (code k)) ++ bodyE k n s ts.length (encL m ts) ++ R := by rw [← e]; simp [List.append_assoc]
    have hl : ((xs.length + (enc (code k)).length : Nat) : Int) = ((xs ++ enc (code k)).length : Nat) := by rw [List.length_append]
    rw [hl] at hN
    rw [getT_num hN]
    obtain ⟨ys, hys⟩ : ∃ ys, xs ++ enc (code k) = ys := ⟨_, rfl⟩
    rw [hys] at hp
    have hyl : ys.length = xs.length + (enc (code k)).length := by rw [← hys, List.length_append]
    have hEL : (encT m k n s ts).length = (enc (code k)).length + (bodyE k n s ts.length (encL m ts)).length := by simp [encT]
    rw [hys]
    show getB zs (getT zs m) k ys.length = (some (((k, n, s, ts) : Int × Int × ByteArray × List (Tm m)), ((xs.length + (encT m k n s ts).length : Nat) : Int)) : Option ((Int × Int × ByteArray × List (Tm m)) × Int))
    rcases hsh with ⟨rfl, h1, h2, h3⟩ | ⟨rfl, h1, h2, h3⟩ | ⟨rfl, h1, h2, h3⟩ | ⟨rfl, h1, h2, h3⟩ | ⟨rfl, h1, h2, h3⟩
    · have hts : ts = [] := List.length_eq_zero_iff.1 h3
      have hse : s = ByteArray.empty := empty_of h2
      have hb : bodyE 1 n s ts.length (encL m ts) = enc (code n) := by simp [bodyE]
      rw [hb] at hp
      have hB := getNum_put ys R n
      rw [← hp, clamp_in h1] at hB
      unfold getB
      rw [if_pos (.inl rfl), hB]
      subst hts hse
      rw [hEL, hb]
      simp only [if_true]
      congr 2
      rw [hyl]; omega
    · have hts : ts = [] := List.length_eq_zero_iff.1 h3
      have hb : bodyE 2 n s ts.length (encL m ts) = put s := by simp [bodyE]
      rw [hb] at hp
      have hsz : s.size ≤ 1000000000000 := by have := h1.2.2; omega
      have hB := getText_put2 ys R s hsz
      rw [← hp] at hB
      unfold getB
      rw [if_neg (by omega), if_pos rfl, hB]
      subst hts h2
      rw [hEL, hb]
      simp only [if_true, strOfNums_nums]
      congr 2
      rw [hyl]; omega
    · have hts : ts = [] := List.length_eq_zero_iff.1 h3
      have hse : s = ByteArray.empty := empty_of h2
      have hb : bodyE 3 n s ts.length (encL m ts) = enc (code n) := by simp [bodyE]
      rw [hb] at hp
      have hB := getNum_put ys R n
      rw [← hp, clamp_in (by omega)] at hB
      unfold getB
      rw [if_pos (.inr rfl), hB]
      subst hts hse
      rw [hEL, hb]
      simp only [if_true]
      congr 2
      rw [hyl]; omega
    · have hse : s = ByteArray.empty := empty_of h2
      have hb : bodyE 4 n s ts.length (encL m ts) = enc (code ts.length) ++ encL m ts := by simp [bodyE]
      rw [hb] at hp
      have hB := getNum_put ys (encL m ts ++ R) ts.length
      rw [← List.append_assoc] at hp
      have hp' : zs = ys ++ enc (code ts.length) ++ (encL m ts ++ R) := by rw [hp]; simp [List.append_assoc]
      rw [← hp', clamp_in (by omega)] at hB
      have hL := getL_put (getT zs m) zs ts (ys ++ enc (code ts.length)) R (by rw [hp, encL_of]) (fun t ht xs R h => ih t xs R (okL_mem hok t ht) h)
      rw [List.length_append] at hL
      unfold getB
      rw [if_neg (by omega), if_neg (by omega), hB, if_pos ⟨.inl rfl, rfl, by omega, by omega⟩]
      simp only [Int.toNat_natCast]
      rw [hL]
      subst h1 hse
      rw [hEL, hb, encL_of]
      simp only [List.length_append]
      congr 2
      rw [hyl]; omega
    · have hse : s = ByteArray.empty := empty_of h2
      have hb : bodyE 5 n s ts.length (encL m ts) = enc (code ts.length) ++ encL m ts := by simp [bodyE]
      rw [hb] at hp
      have hB := getNum_put ys (encL m ts ++ R) ts.length
      rw [← List.append_assoc] at hp
      have hp' : zs = ys ++ enc (code ts.length) ++ (encL m ts ++ R) := by rw [hp]; simp [List.append_assoc]
      rw [← hp', clamp_in (by omega)] at hB
      have hL := getL_put (getT zs m) zs ts (ys ++ enc (code ts.length)) R (by rw [hp, encL_of]) (fun t ht xs R h => ih t xs R (okL_mem hok t ht) h)
      rw [List.length_append] at hL
      unfold getB
      rw [if_neg (by omega), if_neg (by omega), hB, if_pos ⟨.inr rfl, rfl, by omega, by omega⟩]
      simp only [Int.toNat_natCast]
      rw [hL]
      subst h1 hse
      rw [hEL, hb, encL_of]
      simp only [List.length_append]
      congr 2
      rw [hyl]; omega

theorem flatMap_congr2 {α β : Type} {f g : α → List β} : ∀ {l : List α}, (∀ x ∈ l, f x = g x) → l.flatMap f = l.flatMap g := by
  intro l
  induction l with
  | nil => intro _; rfl
  | cons a l ih => intro h; rw [List.flatMap_cons, List.flatMap_cons, h a (by simp), ih fun x hx => h x (by simp [hx])]

/-- A term of its fields. -/
def mkU {e : Nat} (k n : Int) (s : ByteArray) (l : List (Tm e)) : Tm (e + 1) := (k, n, s, l)

/-- The same terms, with other storeys. -/
def conv : (d e : Nat) → List (Tm d) → List (Tm e)
  | 0, _, _ => []
  | _ + 1, 0, _ => []
  | d + 1, e + 1, ts => ts.map fun t => mkU t.K t.N t.S (conv d e t.L)

theorem conv_ok : ∀ (d e : Nat) (ts : List (Tm d)), depL d ts ≤ e → (conv d e ts).length = ts.length ∧ (∀ w v, RdL d w v ts → RdL e w v (conv d e ts)) ∧ (WfL d ts → WfL e (conv d e ts)) ∧ (OkL d ts → OkL e (conv d e ts)) ∧ encL e (conv d e ts) = encL d ts ∧ cntL e (conv d e ts) = cntL d ts ∧ depL e (conv d e ts) = depL d ts := by
  intro d
  induction d with
  | zero =>
    intro e ts _
    rw [tm0 ts]
    have hc : conv 0 e [] = [] := by simp [conv]
    rw [hc]
    refine ⟨rfl, ?_, ?_, ?_, ?_, ?_, ?_⟩
    · rintro w v ⟨a, c, rfl⟩
      cases e with
      | zero => exact ⟨a, c, rfl⟩
      | succ e => exact ⟨a, c, rfl, fun i t h => by simp at h⟩
    · intro _; cases e with
      | zero => trivial
      | succ e => exact ⟨by simp, fun t h => by simp at h⟩
    · intro _; cases e with
      | zero => trivial
      | succ e => exact fun t h => by simp at h
    · cases e <;> rfl
    · cases e <;> rfl
    · cases e <;> rfl
  | succ d ih =>
    intro e ts hd
    cases e with
    | zero =>
      have hts : ts = [] := by
        cases ts with
        | nil => rfl
        | cons t ts =>
          have := (depL_le (ts := t :: ts)).1 hd t (by simp)
          omega
      subst hts
      have hc : conv (d + 1) 0 [] = [] := by simp [conv]
      rw [hc]
      refine ⟨rfl, ?_, fun _ => trivial, fun _ => trivial, rfl, rfl, rfl⟩
      rintro w v ⟨a, c, rfl, _⟩
      exact ⟨a, c, rfl⟩
    | succ e =>
      have hdt : ∀ t ∈ ts, depL d t.L ≤ e := fun t ht => by have := depL_le.1 hd t ht; omega
      have hc : conv (d + 1) (e + 1) ts = (ts.map fun t => mkU t.K t.N t.S (conv d e t.L)) := rfl
      rw [hc]
      refine ⟨by simp, ?_, ?_, ?_, ?_, ?_, ?_⟩
      · rintro w v ⟨a, c, rfl, hel⟩
        refine ⟨a, c, by simp, fun i t ht => ?_⟩
        rw [List.getElem?_map] at ht
        cases hu : ts[i]? with
        | none => rw [hu] at ht; cases ht
        | some u =>
          rw [hu] at ht
          obtain rfl : mkU u.K u.N u.S (conv d e u.L) = t := by simpa using ht
          obtain ⟨b, o, lv, g1, g2, g3⟩ := hel i u hu
          exact ⟨b, o, lv, g1, g2, (ih e u.L (hdt u (List.mem_of_getElem? hu))).2.1 w lv g3⟩
      · rintro ⟨h1, h2⟩
        refine ⟨by simpa using h1, fun t ht => ?_⟩
        rw [List.mem_map] at ht
        obtain ⟨u, hu, rfl⟩ := ht
        obtain ⟨q1, q2, q3, q4⟩ := h2 u hu
        exact ⟨q1, q2, q3, (ih e u.L (hdt u hu)).2.2.1 q4⟩
      · intro h t ht
        rw [List.mem_map] at ht
        obtain ⟨u, hu, rfl⟩ := ht
        obtain ⟨q1, q2⟩ := h u hu
        have hi := ih e u.L (hdt u hu)
        refine ⟨?_, hi.2.2.2.1 q2⟩
        show Shape u.K u.N u.S (conv d e u.L).length
        rw [hi.1]; exact q1
      · show List.flatMap _ _ = List.flatMap _ _
        rw [List.flatMap_map]
        refine flatMap_congr2 fun u hu => ?_
        have hi := ih e u.L (hdt u hu)
        show enc (code u.K) ++ bodyE u.K u.N u.S (conv d e u.L).length (encL e (conv d e u.L)) = _
        rw [hi.1, hi.2.2.2.2.1]
      · show (List.map _ _).sum = (List.map _ _).sum
        rw [List.map_map]
        congr 1
        refine List.map_congr_left fun u hu => ?_
        have hi := ih e u.L (hdt u hu)
        show 1 + cntL e (conv d e u.L) = _
        rw [hi.2.2.2.2.2.1]
      · show (List.map _ _).foldl max 0 = (List.map _ _).foldl max 0
        rw [List.map_map]
        congr 1
        refine List.map_congr_left fun u hu => ?_
        have hi := ih e u.L (hdt u hu)
        show 1 + depL e (conv d e u.L) = _
        rw [hi.2.2.2.2.2.2]

/-- A right term, with seven storeys in it. -/
theorem right_seven {d : Nat} {k n : Int} {s : ByteArray} {ts : List (Tm d)} (h : Right d k n s ts 8 300) : ∃ us : List (Tm 7), Right 7 k n s us 8 300 ∧ us.length = ts.length ∧ encT 7 k n s us = encT d k n s ts ∧ (∀ w v, RdL d w v ts → RdL 7 w v us) := by
  obtain ⟨h1, h2, h3, h4⟩ := h
  obtain ⟨c1, c2, c3, c4, c5, c6, c7⟩ := conv_ok d 7 ts (by omega)
  exact ⟨conv d 7 ts, ⟨by rw [c1]; exact h1, c4 h2, by rw [c7]; exact h3, by rw [c6]; exact h4⟩, c1, by unfold encT; rw [c1, c5], c2⟩

/-- A right term comes back of its bytes. -/
theorem right_back {k n : Int} {s : ByteArray} {us : List (Tm 7)} (h : Right 7 k n s us 8 300) : getT (encT 7 k n s us) 8 0 = some (((k, n, s, us) : Int × Int × ByteArray × List (Tm 7)), ((encT 7 k n s us).length : Int)) := by
  have := getT_put (encT 7 k n s us) 8 ((k, n, s, us) : Int × Int × ByteArray × List (Tm 7)) [] [] ⟨h.1, h.2.1⟩ (by show _ = [] ++ encT 7 k n s us ++ []; simp)
  have e : encTm 8 ((k, n, s, us) : Int × Int × ByteArray × List (Tm 7)) = encT 7 k n s us := rfl
  rw [e] at this
  have hz : (([] : List Int).length + (encT 7 k n s us).length) = (encT 7 k n s us).length := by simp
  rw [hz] at this
  exact this

end Go.Proofs.Ytbllnmafilabpaa
