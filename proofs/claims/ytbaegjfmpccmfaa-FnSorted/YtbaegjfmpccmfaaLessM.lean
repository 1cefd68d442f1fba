/- Which of two terms is less, and that the model's comparison tells it. -/
import Derived.Test.YtbaegjfmpccmfaaOkM
import Derived.Deep.DeepCutAuto
import Derived.Deep.CutRange
namespace Go.Proofs.Ytbaegjfmpccmfaa
open Go.RowKit
set_option linter.unusedVariables false

/-- The order of lists by the first that are unlike, then by how many. -/
def ltList {α : Type} (lt : α → α → Prop) : List α → List α → Prop
  | [], [] => False
  | [], _ :: _ => True
  | _ :: _, [] => False
  | a :: xs, b :: zs => (a = b ∧ ltList lt xs zs) ∨ (a ≠ b ∧ lt a b)

def BLt (s s' : ByteArray) : Prop := Op.bytesLess s.toList s'.toList = true

/-- The order of terms. -/
def Lt : (d : Nat) → Tm d → Tm d → Prop
  | 0, _, _ => False
  | d + 1, a, b => (a.K ≠ b.K ∧ a.K < b.K) ∨ (a.K = b.K ∧ (((a.K = 1 ∨ a.K = 3) ∧ a.N < b.N) ∨ (a.K = 2 ∧ BLt a.S b.S) ∨ ((a.K = 4 ∧ a.L.length ≠ b.L.length) ∧ a.L.length < b.L.length) ∨
      ((¬ (a.K = 1 ∨ a.K = 3) ∧ ¬ a.K = 2 ∧ ¬ (a.K = 4 ∧ a.L.length ≠ b.L.length)) ∧ ltList (Lt d) a.L b.L)))

theorem ltList_drop {α : Type} {lt : α → α → Prop} : ∀ (j : Nat) (xs zs : List α), j ≤ xs.length → j ≤ zs.length → (∀ m, m < j → xs[m]? = zs[m]?) → (ltList lt xs zs ↔ ltList lt (xs.drop j) (zs.drop j)) := by
  intro j
  induction j with
  | zero => intro xs zs _ _ _; simp
  | succ j ih =>
    intro xs zs h1 h2 h
    cases xs with
    | nil => simp at h1
    | cons a xs =>
      cases zs with
      | nil => simp at h2
      | cons b zs =>
        have e : a = b := by have := h 0 (by omega); simpa using this
        subst e
        rw [List.drop_succ_cons, List.drop_succ_cons, ← ih xs zs (by simpa using h1) (by simpa using h2) fun m hm => by have := h (m + 1) (by omega); simpa using this]
        show (a = a ∧ _) ∨ (a ≠ a ∧ _) ↔ _
        simp

theorem ltList_at {α : Type} {lt : α → α → Prop} {xs zs : List α} {j : Nat} {a b : α} (h1 : xs[j]? = some a) (h2 : zs[j]? = some b) (h : ∀ m, m < j → xs[m]? = zs[m]?) (hne : a ≠ b) : ltList lt xs zs ↔ lt a b := by
  have l1 := (List.getElem?_eq_some_iff.1 h1).1
  have l2 := (List.getElem?_eq_some_iff.1 h2).1
  have e1 := (List.getElem?_eq_some_iff.1 h1).2
  have e2 := (List.getElem?_eq_some_iff.1 h2).2
  rw [ltList_drop j xs zs (by omega) (by omega) h, List.drop_eq_getElem_cons l1, List.drop_eq_getElem_cons l2, e1, e2]
  show (a = b ∧ _) ∨ (a ≠ b ∧ _) ↔ _
  simp [hne]

theorem ltList_end {α : Type} {lt : α → α → Prop} {xs zs : List α} {j : Nat} (h1 : j ≤ xs.length) (h2 : j ≤ zs.length) (he : j = xs.length ∨ j = zs.length) (h : ∀ m, m < j → xs[m]? = zs[m]?) : ltList lt xs zs ↔ xs.length < zs.length := by
  rw [ltList_drop j xs zs h1 h2 h]
  rcases he with rfl | rfl
  · rw [List.drop_length]
    cases hb : zs.drop xs.length with
    | nil =>
      have := List.drop_eq_nil_iff.1 hb
      exact ⟨fun h => absurd h (by show ¬ False; simp), fun h => by omega⟩
    | cons b r =>
      have : xs.length < zs.length := Nat.lt_of_not_le fun hn => by rw [List.drop_eq_nil_of_le hn] at hb; cases hb
      exact ⟨fun _ => this, fun _ => trivial⟩
  · rw [List.drop_length]
    cases ha : xs.drop zs.length with
    | nil => exact ⟨fun h => absurd h (by show ¬ False; simp), fun h => by omega⟩
    | cons a r => exact ⟨fun h => absurd h (by show ¬ False; simp), fun h => by omega⟩

/-- A term of its four fields. -/
def mk {d : Nat} (k n : Int) (s : ByteArray) (ts : List (Tm d)) : Tm (d + 1) := (k, n, s, ts)

theorem Tm.eta {d : Nat} (t : Tm (d + 1)) : mk t.K t.N t.S t.L = t := rfl

def LessC (f d : Nat) : Prop := ∀ (k n : Int) (s : ByteArray) (l : Value) (ts : List (Tm d)) (k' n' : Int) (s' : ByteArray) (l' : Value) (ts' : List (Tm d)) (w : World), RdL d w l ts → RdL d w l' ts' → WfL d ts → WfL d ts' →
  Calls Try.prog f #[.agg #[.int .i64 k, .int .i64 n, .string s, l], .agg #[.int .i64 k', .int .i64 n', .string s', l']] w fun e w' => ∃ b : Bool, e = .returned (.bool b) ∧ (b = true ↔ Lt (d + 1) (mk k n s ts) (mk k' n' s' ts')) ∧ Below w.heap.size w w'

theorem lt_k {d : Nat} {k n : Int} {s : ByteArray} {ts : List (Tm d)} {k' n' : Int} {s' : ByteArray} {ts' : List (Tm d)} (h : k ≠ k') : Lt (d + 1) (mk k n s ts) (mk k' n' s' ts') ↔ k < k' :=
  ⟨fun h1 => by rcases h1 with h1 | h1; exact h1.2; exact absurd h1.1 h, fun h1 => .inl ⟨h, h1⟩⟩
theorem lt_n {d : Nat} {k n : Int} {s : ByteArray} {ts : List (Tm d)} {n' : Int} {s' : ByteArray} {ts' : List (Tm d)} (h : k = 1 ∨ k = 3) : Lt (d + 1) (mk k n s ts) (mk k n' s' ts') ↔ n < n' := by
  constructor
  · intro h1
    rcases h1 with h1 | ⟨_, h1 | h1 | h1 | h1⟩
    · exact absurd rfl h1.1
    · exact h1.2
    · have : k = 2 := h1.1; omega
    · have : k = 4 := h1.1.1; omega
    · exact absurd h h1.1.1
  · exact fun h1 => .inr ⟨rfl, .inl ⟨h, h1⟩⟩
theorem lt_s {d : Nat} {k n : Int} {s : ByteArray} {ts : List (Tm d)} {n' : Int} {s' : ByteArray} {ts' : List (Tm d)} (h : k = 2) : Lt (d + 1) (mk k n s ts) (mk k n' s' ts') ↔ BLt s s' := by
  constructor
  · intro h1
    rcases h1 with h1 | ⟨_, h1 | h1 | h1 | h1⟩
    · exact absurd rfl h1.1
    · have h2 : k = 1 ∨ k = 3 := h1.1; omega
    · exact h1.2
    · have : k = 4 := h1.1.1; omega
    · exact absurd h h1.1.2.1
  · exact fun h1 => .inr ⟨rfl, .inr (.inl ⟨h, h1⟩)⟩
theorem lt_l {d : Nat} {k n : Int} {s : ByteArray} {ts : List (Tm d)} {n' : Int} {s' : ByteArray} {ts' : List (Tm d)} (h : k = 4 ∧ ts.length ≠ ts'.length) : Lt (d + 1) (mk k n s ts) (mk k n' s' ts') ↔ ts.length < ts'.length := by
  constructor
  · intro h1
    rcases h1 with h1 | ⟨_, h1 | h1 | h1 | h1⟩
    · exact absurd rfl h1.1
    · have h2 : k = 1 ∨ k = 3 := h1.1; omega
    · have : k = 2 := h1.1; omega
    · exact h1.2
    · exact absurd h h1.1.2.2
  · exact fun h1 => .inr ⟨rfl, .inr (.inr (.inl ⟨h, h1⟩))⟩
theorem lt_e {d : Nat} {k n : Int} {s : ByteArray} {ts : List (Tm d)} {n' : Int} {s' : ByteArray} {ts' : List (Tm d)} (h1 : ¬ (k = 1 ∨ k = 3)) (h2 : ¬ k = 2) (h3 : ¬ (k = 4 ∧ ts.length ≠ ts'.length)) : Lt (d + 1) (mk k n s ts) (mk k n' s' ts') ↔ ltList (Lt d) ts ts' := by
  constructor
  · intro h
    rcases h with h | ⟨_, h | h | h | h⟩
    · exact absurd rfl h.1
    · exact absurd h.1 h1
    · exact absurd h.1 h2
    · exact absurd h.1 h3
    · exact h.2
  · exact fun h => .inr ⟨rfl, .inr (.inr (.inr ⟨⟨h1, h2, h3⟩, h⟩))⟩

end Go.Proofs.Ytbaegjfmpccmfaa
