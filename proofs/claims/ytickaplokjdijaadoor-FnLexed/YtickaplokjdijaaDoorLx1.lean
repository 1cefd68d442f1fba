/- What a text is read as, byte by byte; and the model's way past blanks and remarks. -/
import Derived.Test.YtickaplokjdijaaDoorTk5
import Derived.Laws.RangeAny
namespace Go.Proofs.YtickaplokjdijaaDoor
open Go.RowKit
set_option linter.unusedVariables false

/-- What a rune takes behind its first byte is no ASCII. -/
theorem decode_cont (s : ByteArray) (i k : Nat) (h1 : 1 ≤ k) (h2 : k < (Utf8.decode s i).2) : i + k < s.size ∧ 128 ≤ (s.get! (i + k)).toNat := by
  revert h2
  simp only [Utf8.decode]
  repeat' split
  all_goals intro h2
  all_goals simp_all
  · obtain rfl : k = 1 := by omega
    omega
  · rcases (by omega : k = 1 ∨ k = 2) with rfl | rfl <;> omega
  · rcases (by omega : k = 1 ∨ k = 2 ∨ k = 3) with rfl | rfl | rfl <;> omega

/-- A token: its kind, its number, its text. -/
def Tok : Type := Int × Int × ByteArray

/-- A blank. -/
def Bl (x : Int) : Prop := x = 32 ∨ x = 9 ∨ x = 10 ∨ x = 13

/-- Not the end of a line. -/
def nlB (x : Int) : Bool := !(x == 10)

/-- The number that digits tell. -/
def dv (l : List UInt8) : Nat := l.foldl (fun a c => a * 10 + (c.toNat - 48)) 0

/-- The token that begins at place i, and the place behind it. -/
def OneAt (s : ByteArray) (i : Nat) (t : Tok) (e : Nat) : Prop :=
  ∃ h : i < s.size,
    (dgB (s[i].toNat : Int) = true ∧ RunTo dgB s i e ∧ ¬ (1 < e - i ∧ (s[i].toNat : Int) = 48) ∧ (dv (s.extract i e).data.toList : Int) ≤ 1000000000000 ∧ t = ((1 : Int), (dv (s.extract i e).data.toList : Int), ByteArray.empty)) ∨
    (smB (s[i].toNat : Int) = true ∧ RunTo atB s i e ∧ e - i ≤ 20 ∧ t = ((2 : Int), (0 : Int), s.extract i e)) ∨
    (lgB (s[i].toNat : Int) = true ∧ RunTo nmB s i e ∧ e - i ≤ 20 ∧ t = ((3 : Int), (0 : Int), s.extract i e)) ∨
    (dgB (s[i].toNat : Int) = false ∧ smB (s[i].toNat : Int) = false ∧ lgB (s[i].toNat : Int) = false ∧ 0 < mkn (s.data.toList.drop i) ∧ (e : Int) = i + mkn (s.data.toList.drop i) ∧ t = ((4 : Int), (0 : Int), s.extract i e))

/-- What a text is read as from place i on, behind some tokens, in so many steps. -/
def LexF (s : ByteArray) : Nat → Nat → List Tok → List Tok → Int → Prop
  | 0, _, _, _, _ => False
  | f + 1, i, acc, r, q =>
    (¬ i < s.size ∧ r = acc ∧ q = -1) ∨
    (∃ h : i < s.size, Bl (s[i].toNat : Int) ∧ LexF s f (i + 1) acc r q) ∨
    (∃ (h : i < s.size) (j : Nat), (s[i].toNat : Int) = 37 ∧ RunTo nlB s i j ∧ LexF s f j acc r q) ∨
    (∃ h : i < s.size, ¬ Bl (s[i].toNat : Int) ∧ ¬ (s[i].toNat : Int) = 37 ∧ (¬ (∃ t e, OneAt s i t e) ∨ acc.length = 2000) ∧ r = [] ∧ q = i) ∨
    (∃ (h : i < s.size) (t : Tok) (e : Nat), ¬ Bl (s[i].toNat : Int) ∧ ¬ (s[i].toNat : Int) = 37 ∧ OneAt s i t e ∧ ¬ acc.length = 2000 ∧ LexF s f e (acc ++ [t]) r q)

/-- What a text is read as from place i on, behind some tokens. -/
def LexR (s : ByteArray) (i : Nat) (acc r : List Tok) (q : Int) : Prop := ∃ f, LexF s f i acc r q

theorem LexR.done {s : ByteArray} (i : Nat) (acc : List Tok) (h : ¬ i < s.size) : LexR s i acc acc (-1) := ⟨1, .inl ⟨h, rfl, rfl⟩⟩
theorem LexR.blank {s : ByteArray} (i : Nat) (acc r : List Tok) (q : Int) (h : i < s.size) (hb : Bl (s[i].toNat : Int)) (g : LexR s (i + 1) acc r q) : LexR s i acc r q := by
  obtain ⟨f, g⟩ := g
  exact ⟨f + 1, .inr (.inl ⟨h, hb, g⟩)⟩
theorem LexR.remark {s : ByteArray} (i j : Nat) (acc r : List Tok) (q : Int) (h : i < s.size) (hb : (s[i].toNat : Int) = 37) (hj : RunTo nlB s i j) (g : LexR s j acc r q) : LexR s i acc r q := by
  obtain ⟨f, g⟩ := g
  exact ⟨f + 1, .inr (.inr (.inl ⟨h, j, hb, hj, g⟩))⟩
theorem LexR.stop {s : ByteArray} (i : Nat) (acc : List Tok) (h : i < s.size) (h1 : ¬ Bl (s[i].toNat : Int)) (h2 : ¬ (s[i].toNat : Int) = 37) (h3 : ¬ (∃ t e, OneAt s i t e) ∨ acc.length = 2000) : LexR s i acc [] i := ⟨1, .inr (.inr (.inr (.inl ⟨h, h1, h2, h3, rfl, rfl⟩)))⟩
theorem LexR.tok {s : ByteArray} (i : Nat) (acc r : List Tok) (q : Int) (t : Tok) (e : Nat) (h : i < s.size) (h1 : ¬ Bl (s[i].toNat : Int)) (h2 : ¬ (s[i].toNat : Int) = 37) (h3 : OneAt s i t e) (h4 : ¬ acc.length = 2000) (g : LexR s e (acc ++ [t]) r q) : LexR s i acc r q := by
  obtain ⟨f, g⟩ := g
  exact ⟨f + 1, .inr (.inr (.inr (.inr ⟨h, t, e, h1, h2, h3, h4, g⟩)))⟩

/-- The way past blanks and remarks goes from place i to place j. -/
def PassTo (s : ByteArray) (i j : Nat) : Prop :=
  (∀ acc r q, LexR s j acc r q → LexR s i acc r q) ∧ i ≤ j ∧ j ≤ s.size ∧ (∀ h : j < s.size, ¬ Bl (s[j].toNat : Int) ∧ ¬ (s[j].toNat : Int) = 37)

/-- As far as the way has gone. -/
def Passed (s : ByteArray) (i j : Nat) : Prop := (∀ acc r q, LexR s j acc r q → LexR s i acc r q) ∧ i ≤ j

set_option maxHeartbeats 1000000 in
theorem specPass_any (s : ByteArray) (at_ : Nat) (w : World) (hat : at_ ≤ s.size) (hs : s.size ≤ 9223372036854775807) :
    Calls Tryd.prog 42 #[.string s, .int .i64 at_] w fun e w' => ∃ j : Nat, e = .returned (.int .i64 j) ∧ Hid (PassTo s at_ j) ∧ w = w' := by
  go_enter Tryd.func42, Tryd.ntmps42
  go_wp2_with fail
  go_loop [1] (fun i => ∃ k : Nat, k ≤ s.size ∧ i = .int .i64 k ∧ Hid (Passed s at_ k)) (fun i => s.size - (intOf i).toNat)
  case atStart => exact ⟨at_, hat, rfl, fun acc r q h => h, Nat.le_refl _⟩
  case round =>
    obtain ⟨k, hk, rfl, HP⟩ := hrel
    by_cases hlt : k < s.size
    · obtain ⟨x, hx⟩ : ∃ x, (s[k].toNat : Int) = x := ⟨_, rfl⟩
      have HX : Hid ((s[k].toNat : Int) = x) := hx
      by_cases hbl : Bl x
      · have HN : Hid (Passed s at_ (k + 1)) := ⟨fun acc r q h => HP.out.1 acc r q (.blank k acc r q hlt (by rw [HX.out]; exact hbl) h), by have := HP.out.2; omega⟩
        clear HX HP
        rcases hbl with rfl | rfl | rfl | rfl
        all_goals
          go_wp2_with fail
          go_round
          case rel => exact ⟨k + 1, by omega, by go_num, HN⟩
          case measure => simp [intOf]; omega
      · have h1 : ¬ x = 32 := fun h => hbl (.inl h)
        have h2 : ¬ x = 9 := fun h => hbl (.inr (.inl h))
        have h3 : ¬ x = 10 := fun h => hbl (.inr (.inr (.inl h)))
        have h4 : ¬ x = 13 := fun h => hbl (.inr (.inr (.inr h)))
        by_cases h37 : x = 37
        · have HL : Hid (∀ j, RunTo nlB s k j → Passed s at_ j) := fun j hj => ⟨fun acc r q h => HP.out.1 acc r q (.remark k j acc r q hlt (by rw [HX.out]; exact h37) hj h), by have := HP.out.2; have := hj.1; omega⟩
          have HF : Hid (nlB (s[k].toNat : Int) = true) := by rw [HX.out, h37]; rfl
          subst h37
          clear HX HP hbl h1 h2 h3 h4
          go_wp2_with fail
          go_loop [1] (fun i => ∃ m : Nat, k ≤ m ∧ m ≤ s.size ∧ i = .int .i64 m ∧ Hid (∀ (j : Nat) (h : j < s.size), k ≤ j → j < m → nlB (s[j].toNat : Int) = true)) (fun i => s.size - (intOf i).toNat)
          case atStart => exact ⟨k, Nat.le_refl _, hk, rfl, fun j _ h1 h2 => by omega⟩
          case round =>
            obtain ⟨m, hkm, hms, rfl, HD⟩ := hrel
            by_cases hlm : m < s.size
            · obtain ⟨y, hy⟩ : ∃ y, (s[m].toNat : Int) = y := ⟨_, rfl⟩
              have HY : Hid ((s[m].toNat : Int) = y) := hy
              by_cases h10 : y = 10
              · have hne : k ≠ m := fun h => by
                  subst h
                  have := HF.out
                  rw [HY.out, h10] at this
                  cases this
                have HR : Hid (Passed s at_ m) := HL.out m ⟨hkm, hms, HD.out, fun h => by rw [HY.out, h10]; rfl⟩
                clear HY HD HL HF
                subst h10
                go_wp2_with fail
                go_round
                case rel => exact ⟨m, hms, rfl, HR⟩
                case measure => simp [intOf]; omega
              · have HR : Hid (∀ (j : Nat) (h : j < s.size), k ≤ j → j < m + 1 → nlB (s[j].toNat : Int) = true) := fun j hj hja hjk => by
                  by_cases h : j < m
                  · exact HD.out j hj hja h
                  · obtain rfl : j = m := by omega
                    rw [HY.out]
                    simp [nlB, h10]
                clear HY HD HL HF
                go_wp2_with fail
                go_round
                case rel => exact ⟨m + 1, by omega, by omega, by go_num, HR⟩
                case measure => simp [intOf]; omega
            · have HR : Hid (Passed s at_ m) := HL.out m ⟨hkm, hms, HD.out, fun h => absurd h hlm⟩
              have hb : decide ((m : Int) < s.size) = false := by simp; omega
              clear HD HL HF
              go_wp2_with fail
              go_round
              case rel => exact ⟨m, hms, rfl, HR⟩
              case measure => simp [intOf]; omega
        · have HR : Hid (PassTo s at_ k) := ⟨HP.out.1, HP.out.2, hk, fun h => by rw [HX.out]; exact ⟨hbl, h37⟩⟩
          have b1 : (x == 32) = false := by simp [h1]
          have b2 : (x == 9) = false := by simp [h2]
          have b3 : (x == 10) = false := by simp [h3]
          have b4 : (x == 13) = false := by simp [h4]
          have b5 : (x == 37) = false := by simp [h37]
          clear HX HP hbl h1 h2 h3 h4 h37
          go_wp2_with fail
          go_ret
          exact ⟨k, rfl, HR, rfl⟩
    · have HR : Hid (PassTo s at_ k) := ⟨HP.out.1, HP.out.2, hk, fun h => absurd h hlt⟩
      have hb : decide ((k : Int) < s.size) = false := by simp; omega
      clear HP
      go_wp2_with fail
      go_ret
      exact ⟨k, rfl, HR, rfl⟩

end Go.Proofs.YtickaplokjdijaaDoor
