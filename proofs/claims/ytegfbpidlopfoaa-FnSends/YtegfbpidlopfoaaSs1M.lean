/- What SendsOf answers, as data; what is no send: the program's. -/
import Derived.Test.YtegfbpidlopfoaaDtSendM
import Derived.Test.YtegfbpidlopfoaaGetTM
import Derived.Test.YtegfbpidlopfoaaVp0M
import Derived.Test.YtegfbpidlopfoaaOw4M
namespace Go.Proofs.Ytegfbpidlopfoaa
open Go.RowKit
set_option linter.unusedVariables false

/-- What is no send. -/
def NoS (d : Nat) (x : Tm (d + 1 + 1)) : Prop := x.K ≠ 4 ∨ x.L.length ≠ 2 ∨ ∃ a : Tm (d + 1), x.L[0]? = some a ∧ a.K ≠ 2 ∧ a.K ≠ 3
def sendOf (d : Nat) (x : Tm (d + 1 + 1)) : DSend d := match x.L with
  | a :: b :: _ => ⟨a, b⟩
  | _ => ⟨mkT 0 0 ⟨#[]⟩ [], mkT 0 0 ⟨#[]⟩ []⟩
theorem good_open {d : Nat} {x : Tm (d + 1 + 1)} (h : ¬ NoS d x) : ∃ a b : Tm (d + 1), x.L = [a, b] ∧ sendOf d x = ⟨a, b⟩ := by
  have h2 : x.L.length = 2 := Classical.byContradiction fun hn => h (.inr (.inl hn))
  obtain ⟨a, b, hab⟩ : ∃ a b : Tm (d + 1), x.L = [a, b] := by
    revert h2
    generalize x.L = l
    intro h2
    match l, h2 with
    | [a, b], _ => exact ⟨a, b, rfl⟩
  refine ⟨a, b, hab, ?_⟩
  unfold sendOf
  rw [hab]
/-- What SendsOf answers. -/
def SendsT (d : Nat) (k : Int) (ts : List (Tm (d + 1 + 1))) (ok : Bool) (l : List (DSend d)) : Prop :=
  (ok = true ∧ k = 5 ∧ (∀ x ∈ ts, ¬ NoS d x) ∧ l = ts.map (sendOf d)) ∨ (ok = false ∧ ¬ (k = 5 ∧ ∀ x ∈ ts, ¬ NoS d x) ∧ l = [])
theorem SendsT.same {d : Nat} {k : Int} {ts : List (Tm (d + 1 + 1))} {ok ok' : Bool} {l l' : List (DSend d)} (h : SendsT d k ts ok l) (h' : SendsT d k ts ok' l') : ok = ok' ∧ l = l' := by
  rcases h with ⟨h1, h2, h3, h4⟩ | ⟨h1, h2, h3⟩ <;> rcases h' with ⟨j1, j2, j3, j4⟩ | ⟨j1, j2, j3⟩
  · exact ⟨h1.trans j1.symm, h4.trans j4.symm⟩
  · exact absurd ⟨h2, h3⟩ j2
  · exact absurd ⟨j2, j3⟩ h2
  · exact ⟨h1.trans j1.symm, h3.trans j3.symm⟩

theorem enters_noSend : ∀ args w, (callFunc 15 args).run Try.prog w = .ok (.enter 15 args) w := enters_of Try.func15 (by kernel_rfl) rfl

set_option maxRecDepth 100000 in
set_option maxHeartbeats 4000000 in
theorem isNoSend_any (d : Nat) : ToldT (d + 1) 15 (NoS d) := by
  intro vs t w hr hw
  obtain ⟨lv, rfl, h⟩ := hr
  obtain ⟨a, c, rfl, hel⟩ := h
  obtain ⟨l, hl⟩ : ∃ l, t.L.length = l := ⟨_, rfl⟩
  have hA : Below w.heap.size w (w.alloc (.cells #[.int .i64 t.K, .int .i64 t.N, .string t.S, .slice a t.L.length c] 26)) := (Below.refl _ _).alloc (Nat.le_refl _) _
  obtain ⟨PP, hPP⟩ : ∃ P : Prop, NoS d t = P := ⟨_, rfl⟩
  have HPP : Hid (NoS d t = PP) := hPP
  show Calls Try.prog _ _ _ fun e w' => BRes (NoS d t) w e w'
  rw [hPP]
  obtain ⟨K, hK⟩ : ∃ x, t.K = x := ⟨_, rfl⟩
  have HK : Hid (t.K = K ∧ t.L.length = l) := ⟨hK, hl⟩
  rw [hK, hl] at hA ⊢
  clear hPP hw
  by_cases hk4 : K = 4
  · have hkb : (K != 4) = false := by simp [hk4]
    by_cases hl2 : l = 2
    · have hlb : ((l : Int) != 2) = false := by simp [hl2]
      obtain ⟨x, hx⟩ : ∃ x, t.L[0]? = some x := ⟨_, List.getElem?_eq_getElem (by omega)⟩
      obtain ⟨b, o, lv, rfl, ⟨q0, q1, q2, q3⟩, _⟩ := hel 0 x hx
      have HX : Hid (t.L[0]? = some x) := hx
      obtain ⟨XK, hXK⟩ : ∃ y, x.K = y := ⟨_, rfl⟩
      have HXK : Hid (x.K = XK) := hXK
      rw [hXK] at q0
      have q0' : w.cell? ⟨b, o, none⟩ = some (.int .i64 XK) := by simpa using q0
      have r0 := cell_later hA q0'
      have hl2' : (0 : Int) < (l : Int) := by omega
      clear hel hx q0 q1 q2 q3 hXK q0'
      by_cases h2 : XK = 2
      · have h2b : (XK != 2) = false := by simp [h2]
        have HF : Hid (¬ PP) := by
          rw [← HPP.out]
          rintro (g | g | ⟨y, gy, g2, g3⟩)
          · exact g (HK.out.1.trans hk4)
          · exact g (HK.out.2.trans hl2)
          · have := HX.out.symm.trans gy
            cases this
            exact g2 (HXK.out.trans h2)
        clear h2 hk4 hl2
        go_enter Try.func15, Try.ntmps15
        go_wp2_with fail
        go_ret
        exact bres_no HF.out hA
      · have h2b : (XK != 2) = true := by simp [h2]
        by_cases h3 : XK = 3
        · have h3b : (XK != 3) = false := by simp [h3]
          have HF : Hid (¬ PP) := by
            rw [← HPP.out]
            rintro (g | g | ⟨y, gy, g2, g3⟩)
            · exact g (HK.out.1.trans hk4)
            · exact g (HK.out.2.trans hl2)
            · have := HX.out.symm.trans gy
              cases this
              exact g3 (HXK.out.trans h3)
          clear h2 h3 hk4 hl2
          go_enter Try.func15, Try.ntmps15
          go_wp2_with fail
          go_ret
          exact bres_no HF.out hA
        · have h3b : (XK != 3) = true := by simp [h3]
          have HF : Hid PP := by
            rw [← HPP.out]
            exact .inr (.inr ⟨x, HX.out, by rw [HXK.out]; exact h2, by rw [HXK.out]; exact h3⟩)
          clear h2 h3 hk4 hl2
          go_enter Try.func15, Try.ntmps15
          go_wp2_with fail
          go_ret
          exact bres_yes HF.out hA
    · have hlb : ((l : Int) != 2) = true := by simp; omega
      have HF : Hid PP := by rw [← HPP.out]; exact .inr (.inl (by rw [HK.out.2]; exact hl2))
      clear hk4 hl2 hel
      go_enter Try.func15, Try.ntmps15
      go_wp2_with fail
      go_ret
      exact bres_yes HF.out hA
  · have hkb : (K != 4) = true := by simp [hk4]
    have HF : Hid PP := by rw [← HPP.out]; exact .inl (by rw [HK.out.1]; exact hk4)
    clear hk4 hel
    go_enter Try.func15, Try.ntmps15
    go_wp2_with fail
    go_ret
    exact bres_yes HF.out hA

end Go.Proofs.Ytegfbpidlopfoaa
