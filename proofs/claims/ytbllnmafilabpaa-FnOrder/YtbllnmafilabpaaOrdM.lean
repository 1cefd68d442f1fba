/- The order of terms that are right: one of two unlike ones is less, and what is less than what is less is less. -/
import Derived.Test.YtbllnmafilabpaaLookM
import Derived.Test.YtbllnmafilabpaaGetTM
import Derived.Test.YtbllnmafilabpaaOhM
import Derived.Test.YtbllnmafilabpaaConvM
namespace Go.Proofs.Ytbllnmafilabpaa
open Go.RowKit
set_option linter.unusedVariables false

theorem bl_irr : ∀ l : List UInt8, Op.bytesLess l l = false := bytesLess_self

theorem bl_tri : ∀ l m : List UInt8, l ≠ m → Op.bytesLess l m = true ∨ Op.bytesLess m l = true := by
  intro l
  induction l with
  | nil =>
    intro m h
    cases m with
    | nil => exact absurd rfl h
    | cons b m => exact .inl rfl
  | cons a l ih =>
    intro m h
    cases m with
    | nil => exact .inr rfl
    | cons b m =>
      by_cases hab : a = b
      · subst hab
        have hlm : l ≠ m := fun e => h (by rw [e])
        rcases ih m hlm with h1 | h1
        · left; simp [Op.bytesLess, h1]
        · right; simp [Op.bytesLess, h1]
      · have hn : a < b ∨ b < a := by
          rcases Nat.lt_trichotomy a.toNat b.toNat with h1 | h1 | h1
          · exact .inl h1
          · exact absurd (UInt8.toNat_inj.1 h1) hab
          · exact .inr h1
        rcases hn with h1 | h1
        · left; simp [Op.bytesLess, h1]
        · right; simp [Op.bytesLess, h1]

theorem bl_cons (a b : UInt8) (l m : List UInt8) : Op.bytesLess (a :: l) (b :: m) = true ↔ a < b ∨ (a = b ∧ Op.bytesLess l m = true) := by
  simp [Op.bytesLess]

theorem bl_tra : ∀ l m r : List UInt8, Op.bytesLess l m = true → Op.bytesLess m r = true → Op.bytesLess l r = true := by
  intro l
  induction l with
  | nil =>
    intro m r h1 h2
    cases r with
    | nil => cases m <;> cases h2
    | cons c r => rfl
  | cons a l ih =>
    intro m r h1 h2
    cases m with
    | nil => cases h1
    | cons b m =>
      cases r with
      | nil => cases h2
      | cons c r =>
        rw [bl_cons] at *
        rcases h1 with h1 | ⟨rfl, h1⟩
        · rcases h2 with h2 | ⟨rfl, h2⟩
          · exact .inl (UInt8.lt_trans h1 h2)
          · exact .inl h1
        · rcases h2 with h2 | ⟨rfl, h2⟩
          · exact .inl h2
          · exact .inr ⟨rfl, ih m r h1 h2⟩

theorem blt_tri {s s' : ByteArray} (h : s ≠ s') : BLt s s' ∨ BLt s' s := bl_tri _ _ fun e => h (toList_inj e)
theorem blt_irr (s : ByteArray) : ¬ BLt s s := fun h => by unfold BLt at h; rw [bl_irr] at h; cases h
theorem blt_tra {s t u : ByteArray} (h1 : BLt s t) (h2 : BLt t u) : BLt s u := bl_tra _ _ _ h1 h2

/-- An order of those of a kind. -/
structure Lin {α : Type} (lt : α → α → Prop) (P : α → Prop) : Prop where
  irr : ∀ a, P a → ¬ lt a a
  tri : ∀ a b, P a → P b → a ≠ b → lt a b ∨ lt b a
  tra : ∀ a b c, P a → P b → P c → lt a b → lt b c → lt a c

theorem lin_list {α : Type} {lt : α → α → Prop} {P : α → Prop} (H : Lin lt P) : Lin (ltList lt) (fun l => ∀ x ∈ l, P x) := by
  refine ⟨?_, ?_, ?_⟩
  · intro l
    induction l with
    | nil => intro _ h; exact h
    | cons a l ih =>
      intro hp h
      rcases h with ⟨_, h⟩ | ⟨h, _⟩
      · exact ih (fun x hx => hp x (by simp [hx])) h
      · exact h rfl
  · intro l
    induction l with
    | nil =>
      intro m _ _ h
      cases m with
      | nil => exact absurd rfl h
      | cons b m => exact .inl trivial
    | cons a l ih =>
      intro m hl hm h
      cases m with
      | nil => exact .inr trivial
      | cons b m =>
        by_cases hab : a = b
        · subst hab
          rcases ih m (fun x hx => hl x (by simp [hx])) (fun x hx => hm x (by simp [hx])) (fun e => h (by rw [e])) with h1 | h1
          · exact .inl (.inl ⟨rfl, h1⟩)
          · exact .inr (.inl ⟨rfl, h1⟩)
        · rcases H.tri a b (hl a (by simp)) (hm b (by simp)) hab with h1 | h1
          · exact .inl (.inr ⟨hab, h1⟩)
          · exact .inr (.inr ⟨Ne.symm hab, h1⟩)
  · intro l
    induction l with
    | nil =>
      intro m r _ _ _ h1 h2
      cases m with
      | nil => exact absurd h1 id
      | cons b m =>
        cases r with
        | nil => exact absurd h2 id
        | cons c r => trivial
    | cons a l ih =>
      intro m r hl hm hr h1 h2
      cases m with
      | nil => exact absurd h1 id
      | cons b m =>
        cases r with
        | nil => exact absurd h2 id
        | cons c r =>
          rcases h1 with ⟨rfl, h1⟩ | ⟨hab, h1⟩
          · rcases h2 with ⟨rfl, h2⟩ | ⟨hbc, h2⟩
            · exact .inl ⟨rfl, ih m r (fun x hx => hl x (by simp [hx])) (fun x hx => hm x (by simp [hx])) (fun x hx => hr x (by simp [hx])) h1 h2⟩
            · exact .inr ⟨hbc, h2⟩
          · rcases h2 with ⟨rfl, h2⟩ | ⟨hbc, h2⟩
            · exact .inr ⟨hab, h1⟩
            · have h3 := H.tra a b c (hl a (by simp)) (hm b (by simp)) (hr c (by simp)) h1 h2
              refine .inr ⟨fun e => ?_, h3⟩
              rw [← e] at h3
              exact H.irr a (hl a (by simp)) h3

/-- The order of two heads. -/
def cmpI (x y : Int) : Int := if x < y then -1 else if y < x then 1 else 0
def cmpB (x y : ByteArray) : Int := if Op.bytesLess x.toList y.toList = true then -1 else if Op.bytesLess y.toList x.toList = true then 1 else 0
def hway (k n : Int) (s : ByteArray) (l : Nat) (k' n' : Int) (s' : ByteArray) (l' : Nat) : Int :=
  if k ≠ k' then cmpI k k' else if k = 1 ∨ k = 3 then cmpI n n' else if k = 2 then cmpB s s' else if k = 4 then cmpI l l' else 0

theorem cmpI_zero {x y : Int} : cmpI x y = 0 ↔ x = y := by unfold cmpI; split <;> (try split) <;> omega
theorem cmpI_neg {x y : Int} : cmpI x y < 0 ↔ x < y := by unfold cmpI; split <;> (try split) <;> omega
theorem cmpB_zero {x y : ByteArray} : cmpB x y = 0 ↔ x = y := by
  unfold cmpB
  constructor
  · intro h
    split at h
    · omega
    · rename_i h1
      split at h
      · omega
      · rename_i h2
        by_cases e : x = y
        · exact e
        · rcases blt_tri e with h3 | h3
          · exact absurd h3 h1
          · exact absurd h3 h2
  · rintro rfl
    rw [if_neg (by rw [bl_irr]; simp), if_neg (by rw [bl_irr]; simp)]
theorem cmpB_neg {x y : ByteArray} : cmpB x y < 0 ↔ BLt x y := by
  unfold cmpB BLt
  split
  · rename_i h; simp [h]
  · rename_i h
    split <;> simp [h]

theorem shape_eq {d : Nat} {t u : Tm (d + 1)} (ht : Shape t.K t.N t.S t.L.length) (hu : Shape u.K u.N u.S u.L.length) (hk : t.K = u.K) :
    ((t.K = 1 ∨ t.K = 3) ∧ t.L = [] ∧ u.L = [] ∧ t.S = u.S) ∨ (t.K = 2 ∧ t.L = [] ∧ u.L = [] ∧ t.N = u.N) ∨ ((t.K = 4 ∨ t.K = 5) ∧ t.N = u.N ∧ t.S = u.S) := by
  rw [← hk] at hu
  have hs : ∀ {a b : ByteArray}, a.size = 0 → b.size = 0 → a = b := fun h1 h2 => (empty_of h1).trans (empty_of h2).symm
  rcases ht with ⟨h, h1, h2, h3⟩ | ⟨h, h1, h2, h3⟩ | ⟨h, h1, h2, h3⟩ | ⟨h, h1, h2, h3⟩ | ⟨h, h1, h2, h3⟩ <;>
    rcases hu with ⟨g, g1, g2, g3⟩ | ⟨g, g1, g2, g3⟩ | ⟨g, g1, g2, g3⟩ | ⟨g, g1, g2, g3⟩ | ⟨g, g1, g2, g3⟩ <;> (try omega)
  · exact .inl ⟨.inl h, List.length_eq_zero_iff.1 h3, List.length_eq_zero_iff.1 g3, hs h2 g2⟩
  · exact .inr (.inl ⟨h, List.length_eq_zero_iff.1 h3, List.length_eq_zero_iff.1 g3, by omega⟩)
  · exact .inl ⟨.inr h, List.length_eq_zero_iff.1 h3, List.length_eq_zero_iff.1 g3, hs h2 g2⟩
  · exact .inr (.inr ⟨.inl h, by omega, hs h2 g2⟩)
  · exact .inr (.inr ⟨.inr h, by omega, hs h2 g2⟩)

/-- What the heads of two right terms tell. -/
theorem head_tells {d : Nat} {t u : Tm (d + 1)} (ht : Shape t.K t.N t.S t.L.length) (hu : Shape u.K u.N u.S u.L.length) :
    (hway t.K t.N t.S t.L.length u.K u.N u.S u.L.length ≠ 0 → t ≠ u ∧ (Lt (d + 1) t u ↔ hway t.K t.N t.S t.L.length u.K u.N u.S u.L.length < 0)) ∧
    (hway t.K t.N t.S t.L.length u.K u.N u.S u.L.length = 0 → t.K = u.K ∧ (t = u ↔ t.L = u.L) ∧ (Lt (d + 1) t u ↔ ltList (Lt d) t.L u.L)) := by
  unfold hway
  by_cases hk : t.K = u.K
  · rw [if_neg (by simp [hk])]
    have e1 : Lt (d + 1) t u ↔ Lt (d + 1) (mk t.K t.N t.S t.L) (mk t.K u.N u.S u.L) := by rw [Tm.eta, hk, Tm.eta]
    rcases shape_eq ht hu hk with ⟨h1, h2, h3, h4⟩ | ⟨h1, h2, h3, h4⟩ | ⟨h1, h2, h3⟩
    · rw [if_pos h1, e1, lt_n h1]
      refine ⟨fun h => ⟨fun e => ?_, cmpI_neg.symm⟩, fun h => ?_⟩
      · rw [e] at h; exact h (cmpI_zero.2 rfl)
      · have hn := cmpI_zero.1 h
        rw [h2, h3]
        refine ⟨hk, ⟨fun _ => rfl, fun _ => tm_ext hk hn h4 (h2.trans h3.symm)⟩, ?_⟩
        rw [hn]
        exact ⟨fun h => absurd h (by omega), fun h => absurd h id⟩
    · rw [if_neg (by omega), if_pos h1, e1, lt_s h1]
      refine ⟨fun h => ⟨fun e => ?_, cmpB_neg.symm⟩, fun h => ?_⟩
      · rw [e] at h; exact h (cmpB_zero.2 rfl)
      · have hn := cmpB_zero.1 h
        rw [h2, h3]
        refine ⟨hk, ⟨fun _ => rfl, fun _ => tm_ext hk h4 hn (h2.trans h3.symm)⟩, ?_⟩
        rw [hn]
        exact ⟨fun h => absurd h (blt_irr _), fun h => absurd h id⟩
    · rw [if_neg (by omega), if_neg (by omega)]
      have he : t = u ↔ t.L = u.L := ⟨fun e => by rw [e], fun e => tm_ext hk h2 h3 e⟩
      by_cases h4 : t.K = 4
      · rw [if_pos h4]
        refine ⟨fun h => ?_, fun h => ?_⟩
        · have hne : t.L.length ≠ u.L.length := fun e => h (cmpI_zero.2 (by rw [e]))
          refine ⟨fun e => hne (by rw [e]), ?_⟩
          rw [e1, lt_l ⟨h4, hne⟩, cmpI_neg]
          omega
        · have hl : t.L.length = u.L.length := by have := cmpI_zero.1 h; omega
          exact ⟨hk, he, by rw [e1, lt_e (by omega) (by omega) (fun h => h.2 hl)]⟩
      · rw [if_neg h4]
        exact ⟨fun h => absurd rfl h, fun _ => ⟨hk, he, by rw [e1, lt_e (by omega) (by omega) (fun h => h4 h.1)]⟩⟩
  · rw [if_pos hk]
    refine ⟨fun _ => ⟨fun e => hk (by rw [e]), ?_⟩, fun h => absurd (cmpI_zero.1 h) hk⟩
    rw [cmpI_neg]
    have e1 : Lt (d + 1) t u ↔ Lt (d + 1) (mk t.K t.N t.S t.L) (mk u.K u.N u.S u.L) := by rw [Tm.eta, Tm.eta]
    rw [e1, lt_k hk]

theorem lin_Lt : ∀ d, Lin (Lt d) (OkT d) := by
  intro d
  induction d with
  | zero => exact ⟨fun a => Empty.elim a, fun a => Empty.elim a, fun a => Empty.elim a⟩
  | succ d ih =>
    have HL := lin_list ih
    have hmem : ∀ {t : Tm (d + 1)}, OkT (d + 1) t → ∀ x ∈ t.L, OkT d x := fun h => okL_mem h.2
    refine ⟨fun a ha h => ?_, fun a b ha hb hne => ?_, fun a b c ha hb hc h1 h2 => ?_⟩
    · have h0 : hway a.K a.N a.S a.L.length a.K a.N a.S a.L.length = 0 := by
        unfold hway
        rw [if_neg (by simp), cmpI_zero.2 rfl, cmpB_zero.2 rfl, cmpI_zero.2 rfl]
        split <;> (try split) <;> (try split) <;> rfl
      have := ((head_tells ha.1 ha.1).2 h0).2.2.1 h
      exact HL.irr _ (hmem ha) this
    · by_cases hw : hway a.K a.N a.S a.L.length b.K b.N b.S b.L.length = 0
      · obtain ⟨hk, he, hl⟩ := (head_tells ha.1 hb.1).2 hw
        have hw' : hway b.K b.N b.S b.L.length a.K a.N a.S a.L.length = 0 := by
          have h4 := hw
          unfold hway at hw ⊢
          rw [if_neg (by simp [hk])] at hw
          rw [if_neg (by simp [hk])]
          rw [← hk]
          split
          · rename_i h1; rw [if_pos h1] at hw; exact cmpI_zero.2 (cmpI_zero.1 hw).symm
          · rename_i h1
            rw [if_neg h1] at hw
            split
            · rename_i h2; rw [if_pos h2] at hw; exact cmpB_zero.2 (cmpB_zero.1 hw).symm
            · rename_i h2
              rw [if_neg h2] at hw
              split
              · rename_i h3; rw [if_pos h3] at hw; exact cmpI_zero.2 (cmpI_zero.1 hw).symm
              · rfl
        obtain ⟨_, _, hl'⟩ := (head_tells hb.1 ha.1).2 hw'
        rw [hl, hl']
        exact HL.tri _ _ (hmem ha) (hmem hb) fun e => hne (he.2 e)
      · by_cases hn : Lt (d + 1) a b
        · exact .inl hn
        · right
          have h0 := (head_tells ha.1 hb.1).1 hw
          have hge : ¬ hway a.K a.N a.S a.L.length b.K b.N b.S b.L.length < 0 := fun h => hn (h0.2.2 h)
          have e1 : ∀ x y : Int, cmpI x y ≠ 0 → ¬ cmpI x y < 0 → cmpI y x < 0 := fun x y g1 g2 => by
            have g3 : ¬ x < y := fun h => g2 (cmpI_neg.2 h)
            rw [cmpI_neg]
            have g4 : x ≠ y := fun e => g1 (cmpI_zero.2 e)
            omega
          have e2 : ∀ x y : ByteArray, cmpB x y ≠ 0 → ¬ cmpB x y < 0 → cmpB y x < 0 := fun x y g1 g2 => by
            rw [cmpB_neg]
            rcases blt_tri (fun e => g1 (cmpB_zero.2 e)) with h | h
            · exact absurd (cmpB_neg.2 h) g2
            · exact h
          have hlt : hway b.K b.N b.S b.L.length a.K a.N a.S a.L.length < 0 := by
            unfold hway at hw hge ⊢
            by_cases hk : a.K = b.K
            · rw [if_neg (by simp [hk])] at hw hge
              rw [if_neg (by simp [hk]), ← hk]
              split
              · rename_i h1; rw [if_pos h1] at hw hge; exact e1 _ _ hw hge
              · rename_i h1
                rw [if_neg h1] at hw hge
                split
                · rename_i h2; rw [if_pos h2] at hw hge; exact e2 _ _ hw hge
                · rename_i h2
                  rw [if_neg h2] at hw hge
                  split
                  · rename_i h3; rw [if_pos h3] at hw hge; exact e1 _ _ hw hge
                  · rename_i h3; rw [if_neg h3] at hw; exact absurd rfl hw
            · rw [if_pos hk] at hw hge
              rw [if_pos (Ne.symm hk)]
              exact e1 _ _ hw hge
          exact ((head_tells hb.1 ha.1).1 (by omega)).2.2 hlt
    · have tI : ∀ x y z : Int, cmpI x y ≤ 0 → cmpI y z ≤ 0 → cmpI x y < 0 ∨ cmpI y z < 0 → cmpI x z < 0 := fun x y z g1 g2 g3 => by
        rw [cmpI_neg, cmpI_neg] at g3
        rw [cmpI_neg]
        have a1 : ¬ y < x := fun h => by unfold cmpI at g1; rw [if_neg (by omega), if_pos h] at g1; omega
        have a2 : ¬ z < y := fun h => by unfold cmpI at g2; rw [if_neg (by omega), if_pos h] at g2; omega
        omega
      have tB : ∀ x y z : ByteArray, cmpB x y ≤ 0 → cmpB y z ≤ 0 → cmpB x y < 0 ∨ cmpB y z < 0 → cmpB x z < 0 := fun x y z g1 g2 g3 => by
        have q : ∀ {x y : ByteArray}, cmpB x y ≤ 0 → BLt x y ∨ x = y := fun {x y} h => by
          by_cases e : cmpB x y = 0
          · exact .inr (cmpB_zero.1 e)
          · exact .inl (cmpB_neg.1 (by omega))
        rw [cmpB_neg, cmpB_neg] at g3
        rw [cmpB_neg]
        rcases q g1 with h | rfl
        · rcases q g2 with h' | rfl
          · exact blt_tra h h'
          · exact h
        · rcases g3 with h | h
          · exact absurd h (blt_irr _)
          · exact h
      have hle : ∀ {x y : Tm (d + 1)}, OkT (d + 1) x → OkT (d + 1) y → Lt (d + 1) x y → hway x.K x.N x.S x.L.length y.K y.N y.S y.L.length ≤ 0 := fun {x y} hx hy h => by
        by_cases e : hway x.K x.N x.S x.L.length y.K y.N y.S y.L.length = 0
        · omega
        · have := ((head_tells hx.1 hy.1).1 e).2.1 h; omega
      have w1 := hle ha hb h1
      have w2 := hle hb hc h2
      by_cases z1 : hway a.K a.N a.S a.L.length b.K b.N b.S b.L.length = 0 ∧ hway b.K b.N b.S b.L.length c.K c.N c.S c.L.length = 0
      · obtain ⟨k1, q1, l1⟩ := (head_tells ha.1 hb.1).2 z1.1
        obtain ⟨k2, q2, l2⟩ := (head_tells hb.1 hc.1).2 z1.2
        have hL := HL.tra _ _ _ (hmem ha) (hmem hb) (hmem hc) (l1.1 h1) (l2.1 h2)
        have z3 : hway a.K a.N a.S a.L.length c.K c.N c.S c.L.length = 0 := by
          have y1 := z1.1
          have y2 := z1.2
          unfold hway at y1 y2 ⊢
          rw [if_neg (by simp [k1])] at y1
          rw [if_neg (by simp [k2])] at y2
          rw [if_neg (by simp [k1, k2])]
          rw [← k1] at y2
          split
          · rename_i g; rw [if_pos g] at y1 y2; exact cmpI_zero.2 ((cmpI_zero.1 y1).trans (cmpI_zero.1 y2))
          · rename_i g
            rw [if_neg g] at y1 y2
            split
            · rename_i g2; rw [if_pos g2] at y1 y2; exact cmpB_zero.2 ((cmpB_zero.1 y1).trans (cmpB_zero.1 y2))
            · rename_i g2
              rw [if_neg g2] at y1 y2
              split
              · rename_i g3; rw [if_pos g3] at y1 y2; exact cmpI_zero.2 ((cmpI_zero.1 y1).trans (cmpI_zero.1 y2))
              · rfl
        exact ((head_tells ha.1 hc.1).2 z3).2.2.2 hL
      · have z3 : hway a.K a.N a.S a.L.length b.K b.N b.S b.L.length < 0 ∨ hway b.K b.N b.S b.L.length c.K c.N c.S c.L.length < 0 := by omega
        have hlt : hway a.K a.N a.S a.L.length c.K c.N c.S c.L.length < 0 := by
          have q : ∀ x y : Tm (d + 1), x.K = a.K → y.K = a.K → hway x.K x.N x.S x.L.length y.K y.N y.S y.L.length = (if a.K = 1 ∨ a.K = 3 then cmpI x.N y.N else if a.K = 2 then cmpB x.S y.S else if a.K = 4 then cmpI x.L.length y.L.length else 0) := fun x y e1 e2 => by unfold hway; rw [e1, e2, if_neg (by simp)]
          have q2 : ∀ x y : Tm (d + 1), x.K ≠ y.K → hway x.K x.N x.S x.L.length y.K y.N y.S y.L.length = cmpI x.K y.K := fun x y e => by unfold hway; rw [if_pos e]
          by_cases k1 : a.K = b.K
          · by_cases k2 : b.K = c.K
            · rw [q a b rfl k1.symm] at w1 z3
              rw [q b c k1.symm (by rw [k1, k2])] at w2 z3
              rw [q a c rfl (by rw [k1, k2])]
              by_cases g : a.K = 1 ∨ a.K = 3
              · simp only [if_pos g] at w1 w2 z3 ⊢; exact tI _ _ _ w1 w2 z3
              · simp only [if_neg g] at w1 w2 z3 ⊢
                by_cases g2 : a.K = 2
                · simp only [if_pos g2] at w1 w2 z3 ⊢; exact tB _ _ _ w1 w2 z3
                · simp only [if_neg g2] at w1 w2 z3 ⊢
                  by_cases g3 : a.K = 4
                  · simp only [if_pos g3] at w1 w2 z3 ⊢; exact tI _ _ _ w1 w2 z3
                  · simp only [if_neg g3] at z3; omega
            · rw [q2 b c k2] at w2
              rw [q2 a c (by rw [k1]; exact k2), k1]
              have g4 : cmpI b.K c.K ≠ 0 := fun e => k2 (cmpI_zero.1 e)
              omega
          · rw [q2 a b k1] at w1
            have g1 : cmpI a.K b.K < 0 := by have g4 : cmpI a.K b.K ≠ 0 := fun e => k1 (cmpI_zero.1 e); omega
            by_cases k2 : b.K = c.K
            · rw [q2 a c (by rw [← k2]; exact k1), ← k2]; exact g1
            · rw [q2 b c k2] at w2
              have g2 := tI _ _ _ w1 w2 (.inl g1)
              rw [q2 a c (fun e => by rw [e, cmpI_zero.2 rfl] at g2; omega)]
              exact g2
        exact ((head_tells ha.1 hc.1).1 (by omega)).2.2 hlt

end Go.Proofs.Ytbllnmafilabpaa

/- The heads of two terms: what the program's comparison of them comes to. -/
namespace Go.Proofs.Ytbllnmafilabpaa
open Go.RowKit
set_option linter.unusedVariables false

theorem cmpInt_any (x y : Int) (w : World) : Calls Try.prog 35 #[.int .i64 x, .int .i64 y] w fun e w' => e = .returned (.int .i64 (cmpI x y)) ∧ w = w' := by
  rcases Int.lt_trichotomy x y with h | h | h
  · have e : cmpI x y = -1 := by unfold cmpI; rw [if_pos h]
    rw [e]
    go_enter Try.func35, Try.ntmps35
    go_wp2
    go_ret
    exact ⟨rfl, rfl⟩
  · subst h
    have e : cmpI x x = 0 := cmpI_zero.2 rfl
    rw [e]
    exact cmpInt_same x w
  · have e : cmpI x y = 1 := by unfold cmpI; rw [if_neg (by omega), if_pos h]
    have h' : ¬ x < y := by omega
    rw [e]
    go_enter Try.func35, Try.ntmps35
    go_wp2
    go_ret
    exact ⟨rfl, rfl⟩

theorem cmpStr_any (x y : ByteArray) (w : World) : Calls Try.prog 55 #[.string x, .string y] w fun e w' => e = .returned (.int .i64 (cmpB x y)) ∧ w = w' := by
  by_cases h : Op.bytesLess x.toList y.toList = true
  · have e : cmpB x y = -1 := by unfold cmpB; rw [if_pos h]
    rw [e]
    go_enter Try.func55, Try.ntmps55
    go_wp2
    go_ret
    exact ⟨rfl, rfl⟩
  · have h0 : Op.bytesLess x.toList y.toList = false := by simpa using h
    by_cases hxy : x = y
    · subst hxy
      have e : cmpB x x = 0 := cmpB_zero.2 rfl
      rw [e]
      exact cmpStr_same x w
    · have h2 : Op.bytesLess y.toList x.toList = true := by
        rcases bl_tri x.toList y.toList (fun e => hxy (toList_inj e)) with h3 | h3
        · exact absurd h3 h
        · exact h3
      have e : cmpB x y = 1 := by unfold cmpB; rw [if_neg h, if_pos h2]
      have hq : (x.toList == y.toList) = false := by simpa using fun e => hxy (toList_inj e)
      rw [e]
      clear h
      go_enter Try.func55, Try.ntmps55
      go_wp2
      go_ret
      exact ⟨rfl, rfl⟩

theorem cmpInt_any' (x y : Int) (w : World) : Calls Try.prog 35 #[.int .i64 x, .int .i64 y] w fun e w' => e = .returned (.int .i64 (cmpI x y)) ∧ w' = w := (cmpInt_any x y w).mono fun e w' ⟨h1, h2⟩ => ⟨h1, h2.symm⟩

set_option maxRecDepth 100000 in
set_option maxHeartbeats 2000000 in
theorem heads_unlike (k n : Int) (s : ByteArray) (a1 : Option Addr) (len c1 : Nat) (k2 n2 : Int) (s2 : ByteArray) (a2 : Option Addr) (len2 c2 : Nat) (w : World) (hne : k ≠ k2) :
    Calls Try.prog 36 #[.agg #[.int .i64 k, .int .i64 n, .string s, .slice a1 len c1], .agg #[.int .i64 k2, .int .i64 n2, .string s2, .slice a2 len2 c2]] w fun e w' => e = .returned (.tuple #[.int .i64 (cmpI k k2), .slice none 0 0, .slice none 0 0]) ∧ Below w.heap.size w w' := by
  have HCI : Hid (∀ (V : World), Calls Try.prog 35 #[.int .i64 k, .int .i64 k2] V fun e w' => e = .returned (.int .i64 (cmpI k k2)) ∧ V = w') := fun V => cmpInt_any k k2 V
  have hbw : Below w.heap.size w ((w.alloc (.cells #[.int .i64 k, .int .i64 n, .string s, .slice a1 len c1] 26)).alloc (.cells #[.int .i64 k2, .int .i64 n2, .string s2, .slice a2 len2 c2] 26)) := ((Below.refl _ _).alloc (Nat.le_refl _) _).alloc (by simp) _
  go_enter Try.func36, Try.ntmps36
  go_wp2_with fail
  refine (HCI.out _).mono ?_
  rintro e w2 ⟨rfl, rfl⟩
  go_wp2_with fail
  refine bodyPost_ret (v := .tuple #[.int .i64 (cmpI k k2), .slice none 0 0, .slice none 0 0]) (by first | (simp [results, Try.results36, go_sem]; done) | (simp [results, Try.results36, go_sem]; rfl)) rfl ⟨rfl, hbw⟩

set_option maxRecDepth 100000 in
set_option maxHeartbeats 2000000 in
theorem heads_1 (n n2 : Int) (s s2 : ByteArray) (a1 a2 : Option Addr) (len len2 c1 c2 : Nat) (w : World) :
    Calls Try.prog 36 #[.agg #[.int .i64 1, .int .i64 n, .string s, .slice a1 len c1], .agg #[.int .i64 1, .int .i64 n2, .string s2, .slice a2 len2 c2]] w fun e w' => e = .returned (.tuple #[.int .i64 (cmpI n n2), .slice none 0 0, .slice none 0 0]) ∧ Below w.heap.size w w' := by
  obtain ⟨W, hW⟩ : ∃ W, W = (w.alloc (.cells #[.int .i64 1, .int .i64 n, .string s, .slice a1 len c1] 26)).alloc (.cells #[.int .i64 1, .int .i64 n2, .string s2, .slice a2 len2 c2] 26) := ⟨_, rfl⟩
  have hA : Below w.heap.size w W := by rw [hW]; exact ((Below.refl _ _).alloc (Nat.le_refl _) _).alloc (by simp) _
  have hz : W.heap.size = w.heap.size + 1 + 1 := by rw [hW]; simp
  have n0 : W.heap[w.heap.size]? = some (.cells #[.int .i64 1, .int .i64 n, .string s, .slice a1 len c1] 26 (0, 0)) := by rw [hW]; exact (Below.heap_alloc _ _ _ (by simp)).trans (heap_alloc_new w _)
  have n1 : W.heap[w.heap.size + 1]? = some (.cells #[.int .i64 1, .int .i64 n2, .string s2, .slice a2 len2 c2] 26 (0, 0)) := by
    have := heap_alloc_new (w.alloc (.cells #[.int .i64 1, .int .i64 n, .string s, .slice a1 len c1] 26)) (.cells #[.int .i64 1, .int .i64 n2, .string s2, .slice a2 len2 c2] 26)
    rw [show (w.alloc (.cells #[.int .i64 1, .int .i64 n, .string s, .slice a1 len c1] 26)).heap.size = w.heap.size + 1 from by simp, ← hW] at this
    exact this
  have hF := formOf_any 1 n s a1 len c1 W
  have HCI : Hid (∀ (x y : Int) (V : World), Calls Try.prog 35 #[.int .i64 x, .int .i64 y] V fun e w' => e = .returned (.int .i64 (cmpI x y)) ∧ V = w') := fun x y V => cmpInt_any x y V
  have HCS : Hid (∀ (V : World), Calls Try.prog 55 #[.string s, .string s2] V fun e w' => e = .returned (.int .i64 (cmpB s s2)) ∧ V = w') := fun V => cmpStr_any s s2 V
  rw [hW] at hF
  have HW : Hid (W = _) := hW
  clear hW
  have hF : Calls Try.prog 18 #[.agg #[.int .i64 1, .int .i64 n, .string s, .slice a1 len c1]] ((w.alloc (.cells #[.int .i64 1, .int .i64 n, .string s, .slice a1 len c1] 26)).alloc (.cells #[.int .i64 1, .int .i64 n2, .string s2, .slice a2 len2 c2] 26)) fun e w' => e = .returned (.iface 59 (.int .i64 n)) ∧ Below ((w.alloc (.cells #[.int .i64 1, .int .i64 n, .string s, .slice a1 len c1] 26)).alloc (.cells #[.int .i64 1, .int .i64 n2, .string s2, .slice a2 len2 c2] 26)).heap.size ((w.alloc (.cells #[.int .i64 1, .int .i64 n, .string s, .slice a1 len c1] 26)).alloc (.cells #[.int .i64 1, .int .i64 n2, .string s2, .slice a2 len2 c2] 26)) w' := hF
  go_enter Try.func36, Try.ntmps36
  go_wp2_with fail
  refine hF.mono ?_
  clear hF
  rintro e w1 ⟨rfl, hb⟩
  rw [← HW.out] at hb
  have hbw : Below w.heap.size w w1 := hA.trans (hb.mono hA.size)
  have m0 := (hb.block _ (by omega)).trans n0
  have m1 := (hb.block _ (by omega)).trans n1
  have x1 : w1.cell? ⟨w.heap.size, 1, none⟩ = some (.int .i64 n) := by rw [cell_of_row w1 _ 1 _ _ _ m0]; rfl
  have x2 : w1.cell? ⟨w.heap.size, 2, none⟩ = some (.string s) := by rw [cell_of_row w1 _ 2 _ _ _ m0]; rfl
  have x3 : w1.cell? ⟨w.heap.size, 3, none⟩ = some (.slice a1 len c1) := by rw [cell_of_row w1 _ 3 _ _ _ m0]; rfl
  have y1 : w1.cell? ⟨w.heap.size + 1, 1, none⟩ = some (.int .i64 n2) := by rw [cell_of_row w1 _ 1 _ _ _ m1]; rfl
  have y2 : w1.cell? ⟨w.heap.size + 1, 2, none⟩ = some (.string s2) := by rw [cell_of_row w1 _ 2 _ _ _ m1]; rfl
  have y3 : w1.cell? ⟨w.heap.size + 1, 3, none⟩ = some (.slice a2 len2 c2) := by rw [cell_of_row w1 _ 3 _ _ _ m1]; rfl
  clear m0 m1 n0 n1 hb hA HW hz
  go_wp2_with fail
  refine (HCI.out _ _ _).mono ?_
  rintro e w2 ⟨rfl, rfl⟩
  go_wp2_with fail
  refine bodyPost_ret (v := .tuple #[.int .i64 (cmpI n n2), .slice none 0 0, .slice none 0 0]) (by first | (simp [results, Try.results36, go_sem]; done) | (simp [results, Try.results36, go_sem]; rfl)) rfl ⟨rfl, hbw⟩

set_option maxRecDepth 100000 in
set_option maxHeartbeats 2000000 in
theorem heads_2 (n n2 : Int) (s s2 : ByteArray) (a1 a2 : Option Addr) (len len2 c1 c2 : Nat) (w : World) :
    Calls Try.prog 36 #[.agg #[.int .i64 2, .int .i64 n, .string s, .slice a1 len c1], .agg #[.int .i64 2, .int .i64 n2, .string s2, .slice a2 len2 c2]] w fun e w' => e = .returned (.tuple #[.int .i64 (cmpB s s2), .slice none 0 0, .slice none 0 0]) ∧ Below w.heap.size w w' := by
  obtain ⟨W, hW⟩ : ∃ W, W = (w.alloc (.cells #[.int .i64 2, .int .i64 n, .string s, .slice a1 len c1] 26)).alloc (.cells #[.int .i64 2, .int .i64 n2, .string s2, .slice a2 len2 c2] 26) := ⟨_, rfl⟩
  have hA : Below w.heap.size w W := by rw [hW]; exact ((Below.refl _ _).alloc (Nat.le_refl _) _).alloc (by simp) _
  have hz : W.heap.size = w.heap.size + 1 + 1 := by rw [hW]; simp
  have n0 : W.heap[w.heap.size]? = some (.cells #[.int .i64 2, .int .i64 n, .string s, .slice a1 len c1] 26 (0, 0)) := by rw [hW]; exact (Below.heap_alloc _ _ _ (by simp)).trans (heap_alloc_new w _)
  have n1 : W.heap[w.heap.size + 1]? = some (.cells #[.int .i64 2, .int .i64 n2, .string s2, .slice a2 len2 c2] 26 (0, 0)) := by
    have := heap_alloc_new (w.alloc (.cells #[.int .i64 2, .int .i64 n, .string s, .slice a1 len c1] 26)) (.cells #[.int .i64 2, .int .i64 n2, .string s2, .slice a2 len2 c2] 26)
    rw [show (w.alloc (.cells #[.int .i64 2, .int .i64 n, .string s, .slice a1 len c1] 26)).heap.size = w.heap.size + 1 from by simp, ← hW] at this
    exact this
  have hF := formOf_any 2 n s a1 len c1 W
  have HCI : Hid (∀ (x y : Int) (V : World), Calls Try.prog 35 #[.int .i64 x, .int .i64 y] V fun e w' => e = .returned (.int .i64 (cmpI x y)) ∧ V = w') := fun x y V => cmpInt_any x y V
  have HCS : Hid (∀ (V : World), Calls Try.prog 55 #[.string s, .string s2] V fun e w' => e = .returned (.int .i64 (cmpB s s2)) ∧ V = w') := fun V => cmpStr_any s s2 V
  rw [hW] at hF
  have HW : Hid (W = _) := hW
  clear hW
  have hF : Calls Try.prog 18 #[.agg #[.int .i64 2, .int .i64 n, .string s, .slice a1 len c1]] ((w.alloc (.cells #[.int .i64 2, .int .i64 n, .string s, .slice a1 len c1] 26)).alloc (.cells #[.int .i64 2, .int .i64 n2, .string s2, .slice a2 len2 c2] 26)) fun e w' => e = .returned (.iface 60 (.string s)) ∧ Below ((w.alloc (.cells #[.int .i64 2, .int .i64 n, .string s, .slice a1 len c1] 26)).alloc (.cells #[.int .i64 2, .int .i64 n2, .string s2, .slice a2 len2 c2] 26)).heap.size ((w.alloc (.cells #[.int .i64 2, .int .i64 n, .string s, .slice a1 len c1] 26)).alloc (.cells #[.int .i64 2, .int .i64 n2, .string s2, .slice a2 len2 c2] 26)) w' := hF
  go_enter Try.func36, Try.ntmps36
  go_wp2_with fail
  refine hF.mono ?_
  clear hF
  rintro e w1 ⟨rfl, hb⟩
  rw [← HW.out] at hb
  have hbw : Below w.heap.size w w1 := hA.trans (hb.mono hA.size)
  have m0 := (hb.block _ (by omega)).trans n0
  have m1 := (hb.block _ (by omega)).trans n1
  have x1 : w1.cell? ⟨w.heap.size, 1, none⟩ = some (.int .i64 n) := by rw [cell_of_row w1 _ 1 _ _ _ m0]; rfl
  have x2 : w1.cell? ⟨w.heap.size, 2, none⟩ = some (.string s) := by rw [cell_of_row w1 _ 2 _ _ _ m0]; rfl
  have x3 : w1.cell? ⟨w.heap.size, 3, none⟩ = some (.slice a1 len c1) := by rw [cell_of_row w1 _ 3 _ _ _ m0]; rfl
  have y1 : w1.cell? ⟨w.heap.size + 1, 1, none⟩ = some (.int .i64 n2) := by rw [cell_of_row w1 _ 1 _ _ _ m1]; rfl
  have y2 : w1.cell? ⟨w.heap.size + 1, 2, none⟩ = some (.string s2) := by rw [cell_of_row w1 _ 2 _ _ _ m1]; rfl
  have y3 : w1.cell? ⟨w.heap.size + 1, 3, none⟩ = some (.slice a2 len2 c2) := by rw [cell_of_row w1 _ 3 _ _ _ m1]; rfl
  clear m0 m1 n0 n1 hb hA HW hz
  go_wp2_with fail
  refine (HCS.out _).mono ?_
  rintro e w2 ⟨rfl, rfl⟩
  go_wp2_with fail
  refine bodyPost_ret (v := .tuple #[.int .i64 (cmpB s s2), .slice none 0 0, .slice none 0 0]) (by first | (simp [results, Try.results36, go_sem]; done) | (simp [results, Try.results36, go_sem]; rfl)) rfl ⟨rfl, hbw⟩

set_option maxRecDepth 100000 in
set_option maxHeartbeats 2000000 in
theorem heads_3 (n n2 : Int) (s s2 : ByteArray) (a1 a2 : Option Addr) (len len2 c1 c2 : Nat) (w : World) :
    Calls Try.prog 36 #[.agg #[.int .i64 3, .int .i64 n, .string s, .slice a1 len c1], .agg #[.int .i64 3, .int .i64 n2, .string s2, .slice a2 len2 c2]] w fun e w' => e = .returned (.tuple #[.int .i64 (cmpI n n2), .slice none 0 0, .slice none 0 0]) ∧ Below w.heap.size w w' := by
  obtain ⟨W, hW⟩ : ∃ W, W = (w.alloc (.cells #[.int .i64 3, .int .i64 n, .string s, .slice a1 len c1] 26)).alloc (.cells #[.int .i64 3, .int .i64 n2, .string s2, .slice a2 len2 c2] 26) := ⟨_, rfl⟩
  have hA : Below w.heap.size w W := by rw [hW]; exact ((Below.refl _ _).alloc (Nat.le_refl _) _).alloc (by simp) _
  have hz : W.heap.size = w.heap.size + 1 + 1 := by rw [hW]; simp
  have n0 : W.heap[w.heap.size]? = some (.cells #[.int .i64 3, .int .i64 n, .string s, .slice a1 len c1] 26 (0, 0)) := by rw [hW]; exact (Below.heap_alloc _ _ _ (by simp)).trans (heap_alloc_new w _)
  have n1 : W.heap[w.heap.size + 1]? = some (.cells #[.int .i64 3, .int .i64 n2, .string s2, .slice a2 len2 c2] 26 (0, 0)) := by
    have := heap_alloc_new (w.alloc (.cells #[.int .i64 3, .int .i64 n, .string s, .slice a1 len c1] 26)) (.cells #[.int .i64 3, .int .i64 n2, .string s2, .slice a2 len2 c2] 26)
    rw [show (w.alloc (.cells #[.int .i64 3, .int .i64 n, .string s, .slice a1 len c1] 26)).heap.size = w.heap.size + 1 from by simp, ← hW] at this
    exact this
  have hF := formOf_any 3 n s a1 len c1 W
  have HCI : Hid (∀ (x y : Int) (V : World), Calls Try.prog 35 #[.int .i64 x, .int .i64 y] V fun e w' => e = .returned (.int .i64 (cmpI x y)) ∧ V = w') := fun x y V => cmpInt_any x y V
  have HCS : Hid (∀ (V : World), Calls Try.prog 55 #[.string s, .string s2] V fun e w' => e = .returned (.int .i64 (cmpB s s2)) ∧ V = w') := fun V => cmpStr_any s s2 V
  rw [hW] at hF
  have HW : Hid (W = _) := hW
  clear hW
  have hF : Calls Try.prog 18 #[.agg #[.int .i64 3, .int .i64 n, .string s, .slice a1 len c1]] ((w.alloc (.cells #[.int .i64 3, .int .i64 n, .string s, .slice a1 len c1] 26)).alloc (.cells #[.int .i64 3, .int .i64 n2, .string s2, .slice a2 len2 c2] 26)) fun e w' => e = .returned (.iface 62 (.int .i64 n)) ∧ Below ((w.alloc (.cells #[.int .i64 3, .int .i64 n, .string s, .slice a1 len c1] 26)).alloc (.cells #[.int .i64 3, .int .i64 n2, .string s2, .slice a2 len2 c2] 26)).heap.size ((w.alloc (.cells #[.int .i64 3, .int .i64 n, .string s, .slice a1 len c1] 26)).alloc (.cells #[.int .i64 3, .int .i64 n2, .string s2, .slice a2 len2 c2] 26)) w' := hF
  go_enter Try.func36, Try.ntmps36
  go_wp2_with fail
  refine hF.mono ?_
  clear hF
  rintro e w1 ⟨rfl, hb⟩
  rw [← HW.out] at hb
  have hbw : Below w.heap.size w w1 := hA.trans (hb.mono hA.size)
  have m0 := (hb.block _ (by omega)).trans n0
  have m1 := (hb.block _ (by omega)).trans n1
  have x1 : w1.cell? ⟨w.heap.size, 1, none⟩ = some (.int .i64 n) := by rw [cell_of_row w1 _ 1 _ _ _ m0]; rfl
  have x2 : w1.cell? ⟨w.heap.size, 2, none⟩ = some (.string s) := by rw [cell_of_row w1 _ 2 _ _ _ m0]; rfl
  have x3 : w1.cell? ⟨w.heap.size, 3, none⟩ = some (.slice a1 len c1) := by rw [cell_of_row w1 _ 3 _ _ _ m0]; rfl
  have y1 : w1.cell? ⟨w.heap.size + 1, 1, none⟩ = some (.int .i64 n2) := by rw [cell_of_row w1 _ 1 _ _ _ m1]; rfl
  have y2 : w1.cell? ⟨w.heap.size + 1, 2, none⟩ = some (.string s2) := by rw [cell_of_row w1 _ 2 _ _ _ m1]; rfl
  have y3 : w1.cell? ⟨w.heap.size + 1, 3, none⟩ = some (.slice a2 len2 c2) := by rw [cell_of_row w1 _ 3 _ _ _ m1]; rfl
  clear m0 m1 n0 n1 hb hA HW hz
  go_wp2_with fail
  refine (HCI.out _ _ _).mono ?_
  rintro e w2 ⟨rfl, rfl⟩
  go_wp2_with fail
  refine bodyPost_ret (v := .tuple #[.int .i64 (cmpI n n2), .slice none 0 0, .slice none 0 0]) (by first | (simp [results, Try.results36, go_sem]; done) | (simp [results, Try.results36, go_sem]; rfl)) rfl ⟨rfl, hbw⟩

set_option maxRecDepth 100000 in
set_option maxHeartbeats 2000000 in
theorem heads_4 (n n2 : Int) (s s2 : ByteArray) (a1 a2 : Option Addr) (len len2 c1 c2 : Nat) (w : World) :
    Calls Try.prog 36 #[.agg #[.int .i64 4, .int .i64 n, .string s, .slice a1 len c1], .agg #[.int .i64 4, .int .i64 n2, .string s2, .slice a2 len2 c2]] w fun e w' => e = .returned (.tuple #[.int .i64 (cmpI len len2), .slice a1 len c1, .slice a2 len2 c2]) ∧ Below w.heap.size w w' := by
  obtain ⟨W, hW⟩ : ∃ W, W = (w.alloc (.cells #[.int .i64 4, .int .i64 n, .string s, .slice a1 len c1] 26)).alloc (.cells #[.int .i64 4, .int .i64 n2, .string s2, .slice a2 len2 c2] 26) := ⟨_, rfl⟩
  have hA : Below w.heap.size w W := by rw [hW]; exact ((Below.refl _ _).alloc (Nat.le_refl _) _).alloc (by simp) _
  have hz : W.heap.size = w.heap.size + 1 + 1 := by rw [hW]; simp
  have n0 : W.heap[w.heap.size]? = some (.cells #[.int .i64 4, .int .i64 n, .string s, .slice a1 len c1] 26 (0, 0)) := by rw [hW]; exact (Below.heap_alloc _ _ _ (by simp)).trans (heap_alloc_new w _)
  have n1 : W.heap[w.heap.size + 1]? = some (.cells #[.int .i64 4, .int .i64 n2, .string s2, .slice a2 len2 c2] 26 (0, 0)) := by
    have := heap_alloc_new (w.alloc (.cells #[.int .i64 4, .int .i64 n, .string s, .slice a1 len c1] 26)) (.cells #[.int .i64 4, .int .i64 n2, .string s2, .slice a2 len2 c2] 26)
    rw [show (w.alloc (.cells #[.int .i64 4, .int .i64 n, .string s, .slice a1 len c1] 26)).heap.size = w.heap.size + 1 from by simp, ← hW] at this
    exact this
  have hF := formOf_any 4 n s a1 len c1 W
  have HCI : Hid (∀ (x y : Int) (V : World), Calls Try.prog 35 #[.int .i64 x, .int .i64 y] V fun e w' => e = .returned (.int .i64 (cmpI x y)) ∧ V = w') := fun x y V => cmpInt_any x y V
  have HCS : Hid (∀ (V : World), Calls Try.prog 55 #[.string s, .string s2] V fun e w' => e = .returned (.int .i64 (cmpB s s2)) ∧ V = w') := fun V => cmpStr_any s s2 V
  rw [hW] at hF
  have HW : Hid (W = _) := hW
  clear hW
  have hF : Calls Try.prog 18 #[.agg #[.int .i64 4, .int .i64 n, .string s, .slice a1 len c1]] ((w.alloc (.cells #[.int .i64 4, .int .i64 n, .string s, .slice a1 len c1] 26)).alloc (.cells #[.int .i64 4, .int .i64 n2, .string s2, .slice a2 len2 c2] 26)) fun e w' => e = .returned (.iface 63 (.slice a1 len c1)) ∧ Below ((w.alloc (.cells #[.int .i64 4, .int .i64 n, .string s, .slice a1 len c1] 26)).alloc (.cells #[.int .i64 4, .int .i64 n2, .string s2, .slice a2 len2 c2] 26)).heap.size ((w.alloc (.cells #[.int .i64 4, .int .i64 n, .string s, .slice a1 len c1] 26)).alloc (.cells #[.int .i64 4, .int .i64 n2, .string s2, .slice a2 len2 c2] 26)) w' := hF
  go_enter Try.func36, Try.ntmps36
  go_wp2_with fail
  refine hF.mono ?_
  clear hF
  rintro e w1 ⟨rfl, hb⟩
  rw [← HW.out] at hb
  have hbw : Below w.heap.size w w1 := hA.trans (hb.mono hA.size)
  have m0 := (hb.block _ (by omega)).trans n0
  have m1 := (hb.block _ (by omega)).trans n1
  have x1 : w1.cell? ⟨w.heap.size, 1, none⟩ = some (.int .i64 n) := by rw [cell_of_row w1 _ 1 _ _ _ m0]; rfl
  have x2 : w1.cell? ⟨w.heap.size, 2, none⟩ = some (.string s) := by rw [cell_of_row w1 _ 2 _ _ _ m0]; rfl
  have x3 : w1.cell? ⟨w.heap.size, 3, none⟩ = some (.slice a1 len c1) := by rw [cell_of_row w1 _ 3 _ _ _ m0]; rfl
  have y1 : w1.cell? ⟨w.heap.size + 1, 1, none⟩ = some (.int .i64 n2) := by rw [cell_of_row w1 _ 1 _ _ _ m1]; rfl
  have y2 : w1.cell? ⟨w.heap.size + 1, 2, none⟩ = some (.string s2) := by rw [cell_of_row w1 _ 2 _ _ _ m1]; rfl
  have y3 : w1.cell? ⟨w.heap.size + 1, 3, none⟩ = some (.slice a2 len2 c2) := by rw [cell_of_row w1 _ 3 _ _ _ m1]; rfl
  clear m0 m1 n0 n1 hb hA HW hz
  go_wp2_with fail
  go_quiet (first | (go_at_call 35; refine Calls.quiet_of_same (cmpInt_any' _ _ _)))
  all_goals
    go_wp2_with fail
    refine bodyPost_ret (v := .tuple #[.int .i64 (cmpI len len2), .slice a1 len c1, .slice a2 len2 c2]) (by first | (simp [results, Try.results36, go_sem]; done) | (simp [results, Try.results36, go_sem]; rfl)) rfl ⟨rfl, by first | exact below_drewN hbw _ | exact hbw.drew | exact hbw⟩

set_option maxRecDepth 100000 in
set_option maxHeartbeats 2000000 in
theorem heads_5 (n n2 : Int) (s s2 : ByteArray) (a1 a2 : Option Addr) (len len2 c1 c2 : Nat) (w : World) :
    Calls Try.prog 36 #[.agg #[.int .i64 5, .int .i64 n, .string s, .slice a1 len c1], .agg #[.int .i64 5, .int .i64 n2, .string s2, .slice a2 len2 c2]] w fun e w' => e = .returned (.tuple #[.int .i64 0, .slice a1 len c1, .slice a2 len2 c2]) ∧ Below w.heap.size w w' := by
  obtain ⟨W, hW⟩ : ∃ W, W = (w.alloc (.cells #[.int .i64 5, .int .i64 n, .string s, .slice a1 len c1] 26)).alloc (.cells #[.int .i64 5, .int .i64 n2, .string s2, .slice a2 len2 c2] 26) := ⟨_, rfl⟩
  have hA : Below w.heap.size w W := by rw [hW]; exact ((Below.refl _ _).alloc (Nat.le_refl _) _).alloc (by simp) _
  have hz : W.heap.size = w.heap.size + 1 + 1 := by rw [hW]; simp
  have n0 : W.heap[w.heap.size]? = some (.cells #[.int .i64 5, .int .i64 n, .string s, .slice a1 len c1] 26 (0, 0)) := by rw [hW]; exact (Below.heap_alloc _ _ _ (by simp)).trans (heap_alloc_new w _)
  have n1 : W.heap[w.heap.size + 1]? = some (.cells #[.int .i64 5, .int .i64 n2, .string s2, .slice a2 len2 c2] 26 (0, 0)) := by
    have := heap_alloc_new (w.alloc (.cells #[.int .i64 5, .int .i64 n, .string s, .slice a1 len c1] 26)) (.cells #[.int .i64 5, .int .i64 n2, .string s2, .slice a2 len2 c2] 26)
    rw [show (w.alloc (.cells #[.int .i64 5, .int .i64 n, .string s, .slice a1 len c1] 26)).heap.size = w.heap.size + 1 from by simp, ← hW] at this
    exact this
  have hF := formOf_any 5 n s a1 len c1 W
  have HCI : Hid (∀ (x y : Int) (V : World), Calls Try.prog 35 #[.int .i64 x, .int .i64 y] V fun e w' => e = .returned (.int .i64 (cmpI x y)) ∧ V = w') := fun x y V => cmpInt_any x y V
  have HCS : Hid (∀ (V : World), Calls Try.prog 55 #[.string s, .string s2] V fun e w' => e = .returned (.int .i64 (cmpB s s2)) ∧ V = w') := fun V => cmpStr_any s s2 V
  rw [hW] at hF
  have HW : Hid (W = _) := hW
  clear hW
  have hF : Calls Try.prog 18 #[.agg #[.int .i64 5, .int .i64 n, .string s, .slice a1 len c1]] ((w.alloc (.cells #[.int .i64 5, .int .i64 n, .string s, .slice a1 len c1] 26)).alloc (.cells #[.int .i64 5, .int .i64 n2, .string s2, .slice a2 len2 c2] 26)) fun e w' => e = .returned (.iface 65 (.slice a1 len c1)) ∧ Below ((w.alloc (.cells #[.int .i64 5, .int .i64 n, .string s, .slice a1 len c1] 26)).alloc (.cells #[.int .i64 5, .int .i64 n2, .string s2, .slice a2 len2 c2] 26)).heap.size ((w.alloc (.cells #[.int .i64 5, .int .i64 n, .string s, .slice a1 len c1] 26)).alloc (.cells #[.int .i64 5, .int .i64 n2, .string s2, .slice a2 len2 c2] 26)) w' := hF
  go_enter Try.func36, Try.ntmps36
  go_wp2_with fail
  refine hF.mono ?_
  clear hF
  rintro e w1 ⟨rfl, hb⟩
  rw [← HW.out] at hb
  have hbw : Below w.heap.size w w1 := hA.trans (hb.mono hA.size)
  have m0 := (hb.block _ (by omega)).trans n0
  have m1 := (hb.block _ (by omega)).trans n1
  have x1 : w1.cell? ⟨w.heap.size, 1, none⟩ = some (.int .i64 n) := by rw [cell_of_row w1 _ 1 _ _ _ m0]; rfl
  have x2 : w1.cell? ⟨w.heap.size, 2, none⟩ = some (.string s) := by rw [cell_of_row w1 _ 2 _ _ _ m0]; rfl
  have x3 : w1.cell? ⟨w.heap.size, 3, none⟩ = some (.slice a1 len c1) := by rw [cell_of_row w1 _ 3 _ _ _ m0]; rfl
  have y1 : w1.cell? ⟨w.heap.size + 1, 1, none⟩ = some (.int .i64 n2) := by rw [cell_of_row w1 _ 1 _ _ _ m1]; rfl
  have y2 : w1.cell? ⟨w.heap.size + 1, 2, none⟩ = some (.string s2) := by rw [cell_of_row w1 _ 2 _ _ _ m1]; rfl
  have y3 : w1.cell? ⟨w.heap.size + 1, 3, none⟩ = some (.slice a2 len2 c2) := by rw [cell_of_row w1 _ 3 _ _ _ m1]; rfl
  clear m0 m1 n0 n1 hb hA HW hz
  go_wp2_with fail
  go_quiet (fail)
  all_goals
    go_wp2_with fail
    refine bodyPost_ret (v := .tuple #[.int .i64 0, .slice a1 len c1, .slice a2 len2 c2]) (by first | (simp [results, Try.results36, go_sem]; done) | (simp [results, Try.results36, go_sem]; rfl)) rfl ⟨rfl, by first | exact below_drewN hbw _ | exact hbw.drew | exact hbw⟩

/-- What the heads tell, and the parts that count then. -/
theorem heads_any (k n : Int) (s : ByteArray) (a1 : Option Addr) (len c1 : Nat) (k2 n2 : Int) (s2 : ByteArray) (a2 : Option Addr) (len2 c2 : Nat) (w : World) (hk : k = 1 ∨ k = 2 ∨ k = 3 ∨ k = 4 ∨ k = 5) :
    ∃ pa pb : Value, (hway k n s len k2 n2 s2 len2 = 0 → pa = partsV k (.slice a1 len c1) ∧ pb = partsV k (.slice a2 len2 c2)) ∧ ∀ w : World,
    Calls Try.prog 36 #[.agg #[.int .i64 k, .int .i64 n, .string s, .slice a1 len c1], .agg #[.int .i64 k2, .int .i64 n2, .string s2, .slice a2 len2 c2]] w fun e w' => e = .returned (.tuple #[.int .i64 (hway k n s len k2 n2 s2 len2), pa, pb]) ∧ Below w.heap.size w w' := by
  by_cases hne : k = k2
  · subst hne
    rcases hk with rfl | rfl | rfl | rfl | rfl
    · refine ⟨_, _, fun _ => ⟨rfl, rfl⟩, fun w => ?_⟩
      exact heads_1 n n2 s s2 a1 a2 len len2 c1 c2 w
    · refine ⟨_, _, fun _ => ⟨rfl, rfl⟩, fun w => ?_⟩
      exact heads_2 n n2 s s2 a1 a2 len len2 c1 c2 w
    · refine ⟨_, _, fun _ => ⟨rfl, rfl⟩, fun w => ?_⟩
      exact heads_3 n n2 s s2 a1 a2 len len2 c1 c2 w
    · refine ⟨_, _, fun _ => ⟨rfl, rfl⟩, fun w => ?_⟩
      exact heads_4 n n2 s s2 a1 a2 len len2 c1 c2 w
    · refine ⟨_, _, fun _ => ⟨rfl, rfl⟩, fun w => ?_⟩
      exact heads_5 n n2 s s2 a1 a2 len len2 c1 c2 w
  · have e : hway k n s len k2 n2 s2 len2 = cmpI k k2 := by unfold hway; rw [if_pos hne]
    rw [e]
    exact ⟨_, _, fun h => absurd (cmpI_zero.1 h) hne, fun w => heads_unlike k n s a1 len c1 k2 n2 s2 a2 len2 c2 w hne⟩

/-- Two lists of which one or both are empty. -/
theorem taken_empty (p : Nat) (a1 a2 : Option Addr) (l1 l2 c1 c2 : Nat) (w : World) (h : l1 = 0 ∨ l2 = 0) : Calls Try.prog 37 #[.pointer (some ⟨p, 0, none⟩), .slice a1 l1 c1, .slice a2 l2 c2] w fun e w' => e = .returned (.bool (decide (l1 = 0 ∧ l2 = 0))) ∧ w = w' := by
  by_cases h1 : l1 = 0
  · subst h1
    by_cases h2 : l2 = 0
    · subst h2
      rw [decide_eq_true (by simp)]
      exact taken_none p a1 a2 c1 c2 w
    · rw [decide_eq_false (by omega)]
      have h3 : ((0 : Int) == (l2 : Int)) = false := by simp; omega
      go_enter Try.func37, Try.ntmps37
      go_wp2_with fail
      go_ret
      exact ⟨rfl, rfl⟩
  · obtain rfl : l2 = 0 := by omega
    rw [decide_eq_false (by omega)]
    have h3 : ((l1 : Int) == 0) = false := by simp; omega
    go_enter Try.func37, Try.ntmps37
    go_wp2_with fail
    go_ret
    exact ⟨rfl, rfl⟩

/-- Two lists that are not empty, while few have been met. -/
theorem taken_two (p : Nat) (m : Nat) (v1 v2 : Value) (b1 o1 b2 o2 l1 l2 c1 c2 : Nat) (w : World) (hh : w.heap[p]? = some (.cells #[.int .i64 m, v1, v2] 72 (0, 0))) (hm : m < 300) (hl : 0 < l1) (hl' : 0 < l2) (hl1 : l1 ≤ 9223372036854775807) (hl2 : l2 ≤ 9223372036854775807) :
    Calls Try.prog 37 #[.pointer (some ⟨p, 0, none⟩), .slice (some ⟨b1, o1, none⟩) l1 c1, .slice (some ⟨b2, o2, none⟩) l2 c2] w fun e w' => e = .returned (.bool false) ∧ w'.heap[p]? = some (.cells #[.int .i64 (m + 1 : Nat), v1, v2] 72 (0, 0)) ∧ Turned p w w' := by
  have HS1 : Hid (∀ W : World, Calls Try.prog 57 #[.slice (some ⟨b1, o1, none⟩) l1 c1] W fun e w' => e = .returned (.agg #[.pointer (some ⟨b1, o1, none⟩), .int .i64 l1]) ∧ Below W.heap.size W w') := fun W => spotOf_any b1 o1 l1 c1 W hl hl1
  have HS2 : Hid (∀ W : World, Calls Try.prog 57 #[.slice (some ⟨b2, o2, none⟩) l2 c2] W fun e w' => e = .returned (.agg #[.pointer (some ⟨b2, o2, none⟩), .int .i64 l2]) ∧ Below W.heap.size W w') := fun W => spotOf_any b2 o2 l2 c2 W hl' hl2
  have HJ : Hid (∀ W : World, Below w.heap.size w W → Calls Try.prog 56 #[.pointer (some ⟨p, 0, none⟩), .agg #[.pointer (some ⟨b1, o1, none⟩), .int .i64 l1], .agg #[.pointer (some ⟨b2, o2, none⟩), .int .i64 l2]] W fun e w' => e = .returned (.bool false) ∧ w'.heap[p]? = some (.cells #[.int .i64 (m + 1 : Nat), v1, v2] 72 (0, 0)) ∧ Turned p W w') := fun W hW => join_few p m v1 v2 _ _ l1 l2 W ((hW.block p (lt_of_row' hh)).trans hh) hm
  clear hh
  have q1 : ((l1 : Int) == 0) = false := by simp; omega
  have q2 : ((l2 : Int) == 0) = false := by simp; omega
  go_enter Try.func37, Try.ntmps37
  go_wp2_with fail
  refine (HS1.out _).mono ?_
  rintro e w1 ⟨rfl, hb1⟩
  go_wp2_with fail
  refine (HS2.out _).mono ?_
  rintro e w2 ⟨rfl, hb2⟩
  have hb : Below w.heap.size w w2 := hb1.trans (hb2.mono hb1.size)
  go_wp2_with fail
  refine (HJ.out _ hb).mono ?_
  rintro e w3 ⟨rfl, h3, hT3⟩
  have HF : Hid (w3.heap[p]? = some (.cells #[.int .i64 (m + 1 : Nat), v1, v2] 72 (0, 0)) ∧ Turned p w w3) := ⟨h3, (Turned.of_below hb).trans hT3⟩
  clear h3 hT3 hb hb1 hb2
  go_wp2_with fail
  go_ret
  exact ⟨rfl, HF.out⟩

end Go.Proofs.Ytbllnmafilabpaa
