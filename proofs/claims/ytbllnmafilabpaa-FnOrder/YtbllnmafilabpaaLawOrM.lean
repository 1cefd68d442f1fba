/- What the law of the order holds in hand. -/
import Derived.Test.YtbllnmafilabpaaDrLsM
import Derived.Test.YtbllnmafilabpaaOd3M
import Derived.Test.YtbllnmafilabpaaOrdM
import Derived.Test.YtbllnmafilabpaaDrGtM
import Derived.Test.YtbllnmafilabpaaPutM
namespace Go.Proofs.Ytbllnmafilabpaa
open Go.RowKit
set_option linter.unusedVariables false

theorem bool_of (p : Prop) : ∃ x : Bool, (x = true ↔ p) := by
  by_cases h : p
  · exact ⟨true, by simp [h]⟩
  · exact ⟨false, by simp [h]⟩

theorem sm3_ok {k n : Int} {s : ByteArray} {ts : List (Tm 2)} (h : SmT 3 (mk k n s ts)) : OkT 3 (mk k n s ts) := ⟨h.1, sm_ok 2 ts h.2.2.2⟩

theorem roots3 {w : World} {k n : Int} {s : ByteArray} {l : Value} {ts : List (Tm 2)} {k2 n2 : Int} {s2 : ByteArray} {l2 : Value} {us : List (Tm 2)} (h1 : RdL 2 w l ts) (h2 : RdL 2 w l2 us) (m1 : SmT 3 (mk k n s ts)) (m2 : SmT 3 (mk k2 n2 s2 us)) :
    RootsOk w k n s l k2 n2 s2 l2 (1 + cntL 2 ts) (Lt 3 (mk k n s ts) (mk k2 n2 s2 us)) (mk k n s ts = mk k2 n2 s2 us) ∧ 1 + cntL 2 ts ≤ 300 := by
  refine ⟨⟨2, ts, us, h1, h2, m1.1, m2.1, sm_ok 2 ts m1.2.2.2, sm_ok 2 us m2.2.2.2, rfl, Iff.rfl, Iff.rfl⟩, ?_⟩
  have := sm_cnt 2 ts m1.2.2.2 m1.2.2.1
  have h16 : (4 : Nat) ^ 2 = 16 := by decide
  omega

theorem less3 {w : World} {k n : Int} {s : ByteArray} {a1 : Option Addr} {l1 c1 : Nat} {ts : List (Tm 2)} {k2 n2 : Int} {s2 : ByteArray} {a2 : Option Addr} {l2 c2 : Nat} {us : List (Tm 2)} (h1 : RdL 2 w (.slice a1 l1 c1) ts) (h2 : RdL 2 w (.slice a2 l2 c2) us) (m1 : SmT 3 (mk k n s ts)) (m2 : SmT 3 (mk k2 n2 s2 us)) (x : Bool) (hx : x = true ↔ Lt 3 (mk k n s ts) (mk k2 n2 s2 us)) :
    Calls Try.prog 13 #[.agg #[.int .i64 k, .int .i64 n, .string s, .slice a1 l1 c1], .agg #[.int .i64 k2, .int .i64 n2, .string s2, .slice a2 l2 c2]] w fun e w' => e = .returned (.bool x) ∧ Below w.heap.size w w' := by
  obtain ⟨hR, hC⟩ := roots3 h1 h2 m1 m2
  refine (lessTerm_any k n s a1 l1 c1 k2 n2 s2 a2 l2 c2 _ _ _ w hR hC).mono ?_
  rintro e w' ⟨r, rfl, hr, hb⟩
  have : r = x := Bool.eq_iff_iff.2 (hr.out.trans hx.symm)
  exact ⟨by rw [this], hb⟩

theorem same3 {w : World} {k n : Int} {s : ByteArray} {a1 : Option Addr} {l1 c1 : Nat} {ts : List (Tm 2)} {k2 n2 : Int} {s2 : ByteArray} {a2 : Option Addr} {l2 c2 : Nat} {us : List (Tm 2)} (h1 : RdL 2 w (.slice a1 l1 c1) ts) (h2 : RdL 2 w (.slice a2 l2 c2) us) (m1 : SmT 3 (mk k n s ts)) (m2 : SmT 3 (mk k2 n2 s2 us)) (x : Bool) (hx : x = true ↔ mk k n s ts = mk k2 n2 s2 us) :
    Calls Try.prog 11 #[.agg #[.int .i64 k, .int .i64 n, .string s, .slice a1 l1 c1], .agg #[.int .i64 k2, .int .i64 n2, .string s2, .slice a2 l2 c2]] w fun e w' => e = .returned (.bool x) ∧ Below w.heap.size w w' := by
  obtain ⟨hR, hC⟩ := roots3 h1 h2 m1 m2
  refine (sameTerm_any k n s a1 l1 c1 k2 n2 s2 a2 l2 c2 _ _ _ w hR hC).mono ?_
  rintro e w' ⟨r, rfl, hr, hb⟩
  have : r = x := Bool.eq_iff_iff.2 (hr.out.trans hx.symm)
  exact ⟨by rw [this], hb⟩

theorem sless3 {w : World} {k n : Int} {s : ByteArray} {a1 : Option Addr} {l1 c1 : Nat} {ts : List (Tm 2)} {k2 n2 : Int} {s2 : ByteArray} {a2 : Option Addr} {l2 c2 : Nat} {us : List (Tm 2)} (h1 : RdL 2 w (.slice a1 l1 c1) ts) (h2 : RdL 2 w (.slice a2 l2 c2) us) (m1 : WfL 2 ts) (m2 : WfL 2 us) (x : Bool) (hx : x = true ↔ Lt 3 (mk k n s ts) (mk k2 n2 s2 us)) :
    Calls Try.prog 14 #[.agg #[.int .i64 k, .int .i64 n, .string s, .slice a1 l1 c1], .agg #[.int .i64 k2, .int .i64 n2, .string s2, .slice a2 l2 c2]] w fun e w' => e = .returned (.bool x) ∧ Below w.heap.size w w' := by
  refine (specLess_any 2 k n s _ ts k2 n2 s2 _ us w h1 h2 m1 m2).mono ?_
  rintro e w' ⟨r, rfl, hr, hb⟩
  have : r = x := Bool.eq_iff_iff.2 (hr.trans hx.symm)
  exact ⟨by rw [this], hb⟩

/-- How three may stand to one another. -/
theorem stands {T1 T2 T3 : Tm 3} (h1 : OkT 3 T1) (h2 : OkT 3 T2) (h3 : OkT 3 T3) {x y z u v : Bool} (hx : x = true ↔ Lt 3 T1 T2) (hy : y = true ↔ Lt 3 T2 T1) (hz : z = true ↔ T1 = T2) (hu : u = true ↔ Lt 3 T2 T3) (hv : v = true ↔ Lt 3 T1 T3) :
    (x = true ∧ y = false ∧ z = false ∧ (u = false ∨ (u = true ∧ v = true))) ∨ (x = false ∧ y = true ∧ z = false) ∨ (x = false ∧ y = false ∧ z = true) := by
  have L := lin_Lt 3
  by_cases e : T1 = T2
  · have n1 : ¬ Lt 3 T1 T2 := by rw [e]; exact L.irr _ h2
    have n2 : ¬ Lt 3 T2 T1 := by rw [e]; exact L.irr _ h2
    refine .inr (.inr ⟨by simpa using fun h => n1 (hx.1 h), by simpa using fun h => n2 (hy.1 h), hz.2 e⟩)
  · have ez : z = false := by simpa using fun h => e (hz.1 h)
    rcases L.tri _ _ h1 h2 e with h | h
    · have n2 : ¬ Lt 3 T2 T1 := fun h' => L.irr _ h1 (L.tra _ _ _ h1 h2 h1 h h')
      refine .inl ⟨hx.2 h, by simpa using fun h => n2 (hy.1 h), ez, ?_⟩
      cases u
      · exact .inl rfl
      · exact .inr ⟨rfl, hv.2 (L.tra _ _ _ h1 h2 h3 h (hu.1 rfl))⟩
    · have n1 : ¬ Lt 3 T1 T2 := fun h' => L.irr _ h1 (L.tra _ _ _ h1 h2 h1 h' h)
      exact .inr (.inl ⟨by simpa using fun h => n1 (hx.1 h), hy.2 h, ez⟩)

end Go.Proofs.Ytbllnmafilabpaa
