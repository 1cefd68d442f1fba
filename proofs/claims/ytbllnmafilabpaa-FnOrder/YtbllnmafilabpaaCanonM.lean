/- Plain facts, without the program: what is read as a number, a text or a term has just these bytes. -/
import Derived.Test.YtbllnmafilabpaaGetTM
import Derived.Test.YtbllnmafilabpaaTPutSM
import Derived.Test.YtbllnmafilabpaaPutM
namespace Go.Proofs.Ytbllnmafilabpaa
open Go.RowKit
set_option linter.unusedVariables false

/-- That all are bytes. -/
def Byts (zs : List Int) : Prop := ∀ j : Nat, 0 ≤ zs[j]?.getD 0 ∧ zs[j]?.getD 0 ≤ 255

theorem drop_at {zs : List Int} {j : Nat} (h : j < zs.length) : zs.drop j = zs[j]?.getD 0 :: zs.drop (j + 1) := by
  rw [List.drop_eq_getElem_cons h, List.getElem?_eq_getElem h]
  rfl

theorem scan_back (zs : List Int) (hz : Byts zs) (a : Nat) : ∀ (f k : Nat) (c q : Int), scan zs a f k = (c, q, true) → ∃ (e : Int) (R : List Int), c = grp zs a k + e * 2 ^ (7 * k) ∧ 0 ≤ e ∧ (0 < k → 0 < e) ∧ zs.drop (a + k) = enc e ++ R ∧ q = ((a + k + (enc e).length : Nat) : Int) := by
  intro f
  induction f with
  | zero => intro k c q h; simp [scan] at h
  | succ f ih =>
    intro k c q h
    rw [scan] at h
    by_cases h1 : a + k < zs.length
    · rw [if_pos h1] at h
      have hb := hz (a + k)
      have hd := drop_at h1
      by_cases h2 : 127 < zs[a + k]?.getD 0
      · rw [if_pos h2] at h
        obtain ⟨e, R, r1, r2, r3, r4, r5⟩ := ih (k + 1) c q h
        have he := r3 (Nat.succ_pos k)
        generalize hx : zs[a + k]?.getD 0 = x at *
        have hm : x % 128 = x - 128 := by omega
        have e1 : (x % 128 + 128 * e) / 128 = e := by omega
        have e2 : (x % 128 + 128 * e) % 128 + 128 = x := by omega
        refine ⟨x % 128 + 128 * e, R, ?_, by omega, fun _ => by omega, ?_, ?_⟩
        · rw [r1, grp, pow_succ7, hx, Int.add_mul, Int.mul_comm 128 e, Int.mul_assoc e 128, Int.mul_comm 128 (2 ^ (7 * k)), Int.add_assoc]
        · rw [hd, show a + k + 1 = a + (k + 1) from by omega, r4, enc_go (x % 128 + 128 * e) (by omega), e1, e2]
          rfl
        · rw [r5, enc_go (x % 128 + 128 * e) (by omega), e1, List.length_cons]
          omega
      · rw [if_neg h2] at h
        by_cases h3 : zs[a + k]?.getD 0 = 0 ∧ 0 < k
        · rw [if_pos h3] at h; simp at h
        · rw [if_neg h3] at h
          simp only [Prod.mk.injEq, and_true] at h
          obtain ⟨rfl, rfl⟩ := h
          refine ⟨zs[a + k]?.getD 0, zs.drop (a + k + 1), ?_, hb.1, fun hk => ?_, ?_, ?_⟩
          · rw [grp]
            have : zs[a + k]?.getD 0 % 128 = zs[a + k]?.getD 0 := by omega
            rw [this]
          · have : ¬ zs[a + k]?.getD 0 = 0 := fun e => h3 ⟨e, hk⟩
            omega
          · rw [enc_end _ (by omega)]; exact hd
          · rw [enc_end _ (by omega)]; rfl
    · rw [if_neg h1] at h; simp at h

theorem code_dec (c : Int) (h0 : 0 ≤ c) (h1 : c ≤ 2000000000000) : code (dec c) = c := by
  unfold dec
  by_cases ho : c % 2 = 1
  · rw [if_pos ho]
    have hc : clamp (-(c / 2) - 1) = -(c / 2) - 1 := by unfold clamp; split <;> (try split) <;> omega
    unfold code
    rw [hc, if_pos (by omega)]
    omega
  · rw [if_neg ho]
    have hc : clamp (c / 2) = c / 2 := by unfold clamp; split <;> (try split) <;> omega
    unfold code
    rw [hc, if_neg (by omega)]
    omega

/-- What is read as a number at a place has the bytes that stand there. -/
theorem getNum_back (zs : List Int) (hz : Byts zs) (p : Int) (h : (getNum zs p).2.2 = true) : 0 ≤ p ∧ ∃ R, zs.drop p.toNat = enc (code (getNum zs p).1) ++ R ∧ (getNum zs p).2.1 = p + ((enc (code (getNum zs p).1)).length : Nat) := by
  unfold getNum at h ⊢
  by_cases h1 : 0 ≤ p ∧ p < zs.length
  · rw [if_pos h1] at h ⊢
    unfold fin at h ⊢
    by_cases h2 : (scan zs p.toNat 6 0).2.2 = true ∧ (scan zs p.toNat 6 0).1 ≤ 2000000000000
    · rw [if_pos h2] at h ⊢
      obtain ⟨e, R, r1, r2, r3, r4, r5⟩ := scan_back zs hz p.toNat 6 0 (scan zs p.toNat 6 0).1 (scan zs p.toNat 6 0).2.1 (by rw [← h2.1])
      have he : (scan zs p.toNat 6 0).1 = e := by rw [r1]; simp [grp]
      have hc : code (dec (scan zs p.toNat 6 0).1) = e := by rw [he]; exact code_dec e r2 (by rw [← he]; exact h2.2)
      refine ⟨h1.1, R, ?_, ?_⟩
      · show _ = enc (code (dec (scan zs p.toNat 6 0).1)) ++ R
        rw [hc, ← r4]; rfl
      · show (scan zs p.toNat 6 0).2.1 = p + ((enc (code (dec (scan zs p.toNat 6 0).1))).length : Nat)
        rw [hc, r5]
        omega
    · rw [if_neg h2] at h; cases h
  · rw [if_neg h1] at h; cases h

theorem nums_back (l : List Int) (h : ∀ x ∈ l, 0 ≤ x ∧ x ≤ 255) : nums (strOfNums l) = l := by
  unfold nums strOfNums
  simp only [List.map_map]
  conv => rhs; rw [← List.map_id l]
  apply List.map_congr_left
  intro x hx
  have := h x hx
  simp only [Function.comp, id, UInt8.toNat_ofNat']
  omega

theorem Byts.mem {zs : List Int} (h : Byts zs) : ∀ x ∈ zs, 0 ≤ x ∧ x ≤ 255 := fun x hx => by
  obtain ⟨j, hj⟩ := List.getElem?_of_mem hx
  have := h j
  rw [hj] at this
  exact this

theorem drop_of {zs A R : List Int} {p q : Int} (hp : 0 ≤ p) (h : zs.drop p.toNat = A ++ R) (hq : q = p + (A.length : Nat)) : zs.drop q.toNat = R := by
  have e : q.toNat = p.toNat + A.length := by omega
  rw [e, ← List.drop_drop, h, List.drop_left]

/-- What is read as a text at a place has the bytes that stand there. -/
theorem getText_back (zs : List Int) (hz : Byts zs) (p : Int) (h : (getText zs p).2.2 = true) : 0 ≤ p ∧ ∃ R, zs.drop p.toNat = put (strOfNums (getText zs p).1) ++ R ∧ (getText zs p).2.1 = p + ((put (strOfNums (getText zs p).1)).length : Nat) := by
  unfold getText at h ⊢
  by_cases h1 : (getNum zs p).2.2 = true ∧ 0 ≤ (getNum zs p).1 ∧ (getNum zs p).1 ≤ (zs.length : Int) - (getNum zs p).2.1
  · rw [if_pos h1]
    obtain ⟨hp, R, r1, r2⟩ := getNum_back zs hz p h1.1
    have hR := drop_of hp r1 r2
    obtain ⟨-, h2, h3⟩ := h1
    generalize (getNum zs p).1 = x at *
    generalize (getNum zs p).2.1 = q at *
    have hl : ((zs.drop q.toNat).take x.toNat).length = x.toNat := by rw [List.length_take, List.length_drop]; omega
    have hn : nums (strOfNums ((zs.drop q.toNat).take x.toNat)) = (zs.drop q.toNat).take x.toNat := nums_back _ fun y hy => hz.mem y (List.mem_of_mem_drop (List.mem_of_mem_take hy))
    have hs : (strOfNums ((zs.drop q.toNat).take x.toNat)).size = x.toNat := by rw [← nums_length, hn, hl]
    have hx : ((x.toNat : Nat) : Int) = x := by omega
    refine ⟨hp, (zs.drop q.toNat).drop x.toNat, ?_, ?_⟩
    · show _ = put (strOfNums ((zs.drop q.toNat).take x.toNat)) ++ _
      unfold put
      rw [hs, hn, hx, r1, List.append_assoc, List.take_append_drop, hR]
    · show q + x = p + ((put (strOfNums ((zs.drop q.toNat).take x.toNat))).length : Nat)
      unfold put
      rw [hs, hn, hx, List.length_append, hl, r2]
      omega
  · rw [if_neg h1] at h; cases h

/-- The bytes of a term of at most m storeys. -/
def encTm : (m : Nat) → Tm m → List Int
  | 0, _ => []
  | m + 1, t => encT m t.K t.N t.S t.L

theorem encL_of (m : Nat) (ts : List (Tm m)) : encL m ts = ts.flatMap (encTm m) := by
  cases m with
  | zero =>
    cases ts with
    | nil => rfl
    | cons t _ => exact Empty.elim t
  | succ m => rfl

theorem getL_back {m : Nat} (zs : List Int) (f : Int → Option (Tm m × Int)) (hf : ∀ p t q, f p = some (t, q) → 0 ≤ p ∧ ∃ R, zs.drop p.toNat = encTm m t ++ R ∧ q = p + ((encTm m t).length : Nat)) :
    ∀ (j : Nat) (p : Int) (ts : List (Tm m)) (q : Int), 0 ≤ p → getL f j p = some (ts, q) → ts.length = j ∧ ∃ R, zs.drop p.toNat = ts.flatMap (encTm m) ++ R ∧ q = p + ((ts.flatMap (encTm m)).length : Nat) := by
  intro j
  induction j with
  | zero =>
    intro p ts q hp h
    simp only [getL, Option.some.injEq, Prod.mk.injEq] at h
    obtain ⟨rfl, rfl⟩ := h
    exact ⟨rfl, zs.drop p.toNat, rfl, by simp⟩
  | succ j ih =>
    intro p ts q hp h
    rw [getL] at h
    cases h1 : getL f j p with
    | none => rw [h1] at h; cases h
    | some x =>
      obtain ⟨ts1, r⟩ := x
      rw [h1] at h
      simp only at h
      cases h2 : f r with
      | none => rw [h2] at h; cases h
      | some y =>
        obtain ⟨t, r'⟩ := y
        rw [h2] at h
        simp only [Option.some.injEq, Prod.mk.injEq] at h
        obtain ⟨rfl, rfl⟩ := h
        obtain ⟨g1, R, g2, g3⟩ := ih p ts1 r hp h1
        obtain ⟨k0, R2, k1, k2⟩ := hf r t r' h2
        have hR := drop_of hp g2 g3
        refine ⟨by simp [g1], R2, ?_, ?_⟩
        · rw [g2, ← hR, k1, List.flatMap_append, List.append_assoc]
          simp
        · rw [k2, g3, List.flatMap_append, List.length_append]
          simp
          omega

/-- What is read as a term at a place has the bytes that stand there. -/
theorem getT_back (zs : List Int) (hz : Byts zs) : ∀ (m : Nat) (p : Int) (t : Tm m) (q : Int), getT zs m p = some (t, q) → 0 ≤ p ∧ ∃ R, zs.drop p.toNat = encTm m t ++ R ∧ q = p + ((encTm m t).length : Nat) := by
  intro m
  induction m with
  | zero => intro p t q h; cases h
  | succ m ih =>
    intro p t q h
    obtain ⟨t', ht'⟩ : ∃ t' : Int × Int × ByteArray × List (Tm m), t' = t := ⟨t, rfl⟩
    have h : (if (getNum zs p).2.2 = true then getB zs (getT zs m) (getNum zs p).1 (getNum zs p).2.1 else none) = some (t', q) := by rw [ht']; exact h
    have eK : t.K = t'.1 := by rw [ht']; rfl
    have eN : t.N = t'.2.1 := by rw [ht']; rfl
    have eS : t.S = t'.2.2.1 := by rw [ht']; rfl
    have eL : t.L = t'.2.2.2 := by rw [ht']; rfl
    clear ht'
    by_cases h1 : (getNum zs p).2.2 = true
    · rw [if_pos h1] at h
      obtain ⟨hp, R, r1, r2⟩ := getNum_back zs hz p h1
      have hR := drop_of hp r1 r2
      generalize (getNum zs p).1 = k at *
      generalize (getNum zs p).2.1 = p1 at *
      have hp1 : 0 ≤ p1 := by omega
      refine ⟨hp, ?_⟩
      suffices hb : ∃ R2, zs.drop p1.toNat = bodyE t.K t.N t.S t.L.length (encL m t.L) ++ R2 ∧ q = p1 + ((bodyE t.K t.N t.S t.L.length (encL m t.L)).length : Nat) ∧ t.K = k by
        obtain ⟨R2, b1, b2, b3⟩ := hb
        refine ⟨R2, ?_, ?_⟩
        · show _ = (enc (code t.K) ++ bodyE t.K t.N t.S t.L.length (encL m t.L)) ++ R2
          rw [b3, List.append_assoc, ← b3, ← b1, hR, b3]
          exact r1
        · show q = p + ((enc (code t.K) ++ bodyE t.K t.N t.S t.L.length (encL m t.L)).length : Nat)
          rw [b2, r2, List.length_append, b3]
          omega
      unfold getB at h
      by_cases k1 : k = 1 ∨ k = 3
      · rw [if_pos k1] at h
        by_cases h2 : (getNum zs p1).2.2 = true
        · rw [if_pos h2] at h
          simp only [Option.some.injEq, Prod.mk.injEq] at h
          obtain ⟨ht, rfl⟩ := h
          obtain ⟨_, R2, g1, g2⟩ := getNum_back zs hz p1 h2
          have e1 : t.K = k := by rw [eK, ← ht]
          have e2 : t.N = (getNum zs p1).1 := by rw [eN, ← ht]
          have e3 : bodyE t.K t.N t.S t.L.length (encL m t.L) = enc (code (getNum zs p1).1) := by unfold bodyE; rw [e1, if_pos k1, e2]
          exact ⟨R2, by rw [e3]; exact g1, by rw [e3]; exact g2, e1⟩
        · rw [if_neg h2] at h; cases h
      · rw [if_neg k1] at h
        by_cases k2 : k = 2
        · rw [if_pos k2] at h
          by_cases h2 : (getText zs p1).2.2 = true
          · rw [if_pos h2] at h
            simp only [Option.some.injEq, Prod.mk.injEq] at h
            obtain ⟨ht, rfl⟩ := h
            obtain ⟨_, R2, g1, g2⟩ := getText_back zs hz p1 h2
            have e1 : t.K = k := by rw [eK, ← ht]
            have e2 : t.S = strOfNums (getText zs p1).1 := by rw [eS, ← ht]
            have e3 : bodyE t.K t.N t.S t.L.length (encL m t.L) = put (strOfNums (getText zs p1).1) := by unfold bodyE; rw [e1, if_neg k1, if_pos k2, e2]
            exact ⟨R2, by rw [e3]; exact g1, by rw [e3]; exact g2, e1⟩
          · rw [if_neg h2] at h; cases h
        · rw [if_neg k2] at h
          by_cases h2 : (k = 4 ∨ k = 5) ∧ (getNum zs p1).2.2 = true ∧ 0 ≤ (getNum zs p1).1 ∧ (getNum zs p1).1 ≤ 60
          · rw [if_pos h2] at h
            obtain ⟨_, R2, g1, g2⟩ := getNum_back zs hz p1 h2.2.1
            have hR2 := drop_of hp1 g1 g2
            obtain ⟨-, -, h5, h6⟩ := h2
            generalize (getNum zs p1).1 = x at *
            generalize (getNum zs p1).2.1 = p2 at *
            cases h3 : getL (getT zs m) x.toNat p2 with
            | none => rw [h3] at h; cases h
            | some y =>
              obtain ⟨ts, r⟩ := y
              rw [h3] at h
              simp only [Option.some.injEq, Prod.mk.injEq] at h
              obtain ⟨ht, rfl⟩ := h
              obtain ⟨c1, R3, c2, c3⟩ := getL_back zs (getT zs m) ih x.toNat p2 ts r (by omega) h3
              have e1 : t.K = k := by rw [eK, ← ht]
              have e2 : t.L = ts := by rw [eL, ← ht]
              have e4 : ((t.L.length : Nat) : Int) = x := by rw [e2, c1]; omega
              have e3 : bodyE t.K t.N t.S t.L.length (encL m t.L) = enc (code x) ++ ts.flatMap (encTm m) := by unfold bodyE; rw [e1, if_neg k1, if_neg k2, e4, e2, encL_of]
              refine ⟨R3, ?_, ?_, e1⟩
              · rw [e3, List.append_assoc, ← c2, hR2]; exact g1
              · rw [e3, c3, g2, List.length_append]; omega
          · rw [if_neg h2] at h; cases h
    · rw [if_neg h1] at h; cases h

/-- What is read as a term of all bytes has just these. -/
theorem getT_all (zs : List Int) (hz : Byts zs) (k x : Int) (s : ByteArray) (ts : List (Tm 7)) (h : getT zs 8 0 = some (((k, x, s, ts) : Int × Int × ByteArray × List (Tm 7)), (zs.length : Int))) : encT 7 k x s ts = zs := by
  obtain ⟨_, R, h1, h2⟩ := getT_back zs hz 8 0 _ _ h
  have h3 : zs = encT 7 k x s ts ++ R := h1
  have h4 : (zs.length : Int) = 0 + ((encT 7 k x s ts).length : Nat) := h2
  have h5 : R = [] := by
    have := congrArg List.length h3
    rw [List.length_append] at this
    exact List.length_eq_zero_iff.1 (by omega)
  rw [h3, h5, List.append_nil]

end Go.Proofs.Ytbllnmafilabpaa
