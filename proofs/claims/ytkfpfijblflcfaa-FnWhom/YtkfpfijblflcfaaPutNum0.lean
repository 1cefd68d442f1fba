/- Plain facts, without the program: the groups of seven bits of a number, the lowest first. -/
import Derived.Laws.Bits128
import Derived.WalkKit
namespace Go.Proofs.Ytkfpfijblflcfaa

/-- The groups of a code, with fuel. -/
def encF : Nat → Int → List Int
  | 0, c => [c]
  | f + 1, c => if 127 < c then (c % 128 + 128) :: encF f (c / 128) else [c]

/-- The groups of a code. -/
def enc (c : Int) : List Int := encF c.toNat c

theorem encF_more : ∀ (f g : Nat) (c : Int), c.toNat ≤ f → c.toNat ≤ g → encF f c = encF g c := by
  intro f
  induction f with
  | zero =>
    intro g c hf _
    cases g with
    | zero => rfl
    | succ g => rw [encF, encF, if_neg (by omega)]
  | succ f ih =>
    intro g c hf hg
    cases g with
    | zero => rw [encF, encF, if_neg (by omega)]
    | succ g =>
      rw [encF, encF]
      by_cases h : 127 < c
      · rw [if_pos h, if_pos h, ih g (c / 128) (by omega) (by omega)]
      · rw [if_neg h, if_neg h]

theorem enc_go (c : Int) (h : 127 < c) : enc c = (c % 128 + 128) :: enc (c / 128) := by
  unfold enc
  obtain ⟨f, hf⟩ : ∃ f, c.toNat = f + 1 := ⟨c.toNat - 1, by omega⟩
  rw [hf, encF, if_pos h, encF_more f (c / 128).toNat (c / 128) (by omega) (by omega)]

theorem enc_end (c : Int) (h : c ≤ 127) : enc c = [c] := by
  unfold enc
  cases hf : c.toNat with
  | zero => rfl
  | succ f => rw [encF, if_neg (by omega)]

theorem enc_len_pos (c : Int) : 1 ≤ (enc c).length := by
  by_cases h : 127 < c
  · rw [enc_go c h]; simp
  · rw [enc_end c (by omega)]; simp

theorem enc_len : ∀ (k : Nat) (c : Int), c < 2 ^ (7 * (k + 1)) → (enc c).length ≤ k + 1 := by
  intro k
  induction k with
  | zero => intro c h; rw [enc_end c (by simpa using (by omega : c ≤ 127))]; simp
  | succ k ih =>
    intro c h
    by_cases h1 : 127 < c
    · have hp : (2 : Int) ^ (7 * (k + 1 + 1)) = 2 ^ (7 * (k + 1)) * 128 := by
        rw [show 7 * (k + 1 + 1) = 7 * (k + 1) + 7 from by omega, Int.pow_add]; rfl
      rw [hp] at h
      have h2 := ih (c / 128) (by omega)
      rw [enc_go c h1]
      simp; omega
    · rw [enc_end c (by omega)]; simp

theorem enc_len6 (c : Int) (h : c ≤ 4398046511103) : (enc c).length ≤ 6 := by
  have hp : (2 : Int) ^ (7 * (5 + 1)) = 4398046511104 := by decide
  exact enc_len 5 c (by omega)

theorem enc_bytes : ∀ (f : Nat) (c : Int), 0 ≤ c → c.toNat ≤ f → ∀ x ∈ encF f c, 0 ≤ x ∧ x ≤ 255 := by
  intro f
  induction f with
  | zero => intro c h0 hf x hx; simp [encF] at hx; omega
  | succ f ih =>
    intro c h0 hf x hx
    rw [encF] at hx
    by_cases h : 127 < c
    · rw [if_pos h] at hx
      rcases List.mem_cons.1 hx with rfl | hx
      · omega
      · exact ih (c / 128) (by omega) (by omega) x hx
    · rw [if_neg h] at hx
      simp at hx; omega

theorem enc_byte (c : Int) (h0 : 0 ≤ c) : ∀ x ∈ enc c, 0 ≤ x ∧ x ≤ 255 := enc_bytes c.toNat c h0 (Nat.le_refl _)

/-- A number, or the nearest that is kept. -/
def clamp (n : Int) : Int := if 1000000000000 < n then 1000000000000 else if n < -1000000000000 then -1000000000000 else n

/-- The code of a number. -/
def code (n : Int) : Int := if clamp n < 0 then -2 * clamp n - 1 else 2 * clamp n

theorem clamp_bd (n : Int) : -1000000000000 ≤ clamp n ∧ clamp n ≤ 1000000000000 := by unfold clamp; split <;> (try split) <;> omega
theorem code_bd (n : Int) : 0 ≤ code n ∧ code n ≤ 2000000000000 := by have := clamp_bd n; unfold code; split <;> omega

theorem or128 (y : Int) (h0 : 0 ≤ y) (h1 : y < 128) : bits .or .i64 y 128 = y + 128 := by
  have hc : bits .or .i64 y 128 = bits .or .i64 128 y := by simp only [bits, BitVec.or_comm]
  rw [hc, bits_join .i64 62 (by decide) (fun n h₀ h₁ => by rw [IntKind.wrap_i64]; omega) 7 128 y (by decide) (by decide) (by decide) h0 h1 (by omega)]
  omega

end Go.Proofs.Ytkfpfijblflcfaa
