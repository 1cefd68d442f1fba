/- The bytes of a term, and that the model's putting of it makes them. -/
import Derived.Test.YtbllnmafilabpaaLookM
import Derived.Test.YtbllnmafilabpaaPutM
namespace Go.Proofs.Ytbllnmafilabpaa
open Go.RowKit
set_option linter.unusedVariables false

/-- What is put behind a term's kind. -/
def bodyE (k n : Int) (s : ByteArray) (len : Nat) (rest : List Int) : List Int :=
  if k = 1 ∨ k = 3 then enc (code n) else if k = 2 then put s else enc (code len) ++ rest

/-- The bytes of the terms of a list, one behind the other. -/
def encL : (d : Nat) → List (Tm d) → List Int
  | 0, _ => []
  | d + 1, ts => ts.flatMap fun t => enc (code t.K) ++ bodyE t.K t.N t.S t.L.length (encL d t.L)

/-- The bytes of a term. -/
def encT (d : Nat) (k n : Int) (s : ByteArray) (ts : List (Tm d)) : List Int := enc (code k) ++ bodyE k n s ts.length (encL d ts)

def encP (d : Nat) (ts : List (Tm (d + 1))) (j : Nat) : List Int := (ts.take j).flatMap fun t => enc (code t.K) ++ bodyE t.K t.N t.S t.L.length (encL d t.L)

theorem encP_succ (d : Nat) (ts : List (Tm (d + 1))) (j : Nat) (t : Tm (d + 1)) (h : ts[j]? = some t) : encP d ts (j + 1) = encP d ts j ++ encT d t.K t.N t.S t.L := by
  have hl := (List.getElem?_eq_some_iff.1 h).1
  have he := (List.getElem?_eq_some_iff.1 h).2
  unfold encP
  rw [List.take_succ_eq_append_getElem hl, he]
  simp [encT]
theorem encP_all (d : Nat) (ts : List (Tm (d + 1))) (j : Nat) (h : ts.length ≤ j) : encP d ts j = encL (d + 1) ts := by
  unfold encP; rw [List.take_of_length_le h]; rfl
theorem encP_le (d : Nat) (ts : List (Tm (d + 1))) (j : Nat) : (encP d ts j).length ≤ (encL (d + 1) ts).length := by
  show _ ≤ (ts.flatMap _).length
  unfold encP
  conv => rhs; rw [← List.take_append_drop j ts]
  rw [List.flatMap_append, List.length_append]
  omega

/-- The contract of the putting of a term behind bytes. -/
def PutC (f d : Nat) : Prop := ∀ (g m cap : Nat) (zs : List Int) (k n : Int) (s : ByteArray) (l : Value) (ts : List (Tm d)) (w : World), zs.length = m → g < w.heap.size → (∀ i, i < m → w.cell? ⟨g, 0 + i, none⟩ = some (.int .u8 (zs.getD i 0))) →
  RdL d w l ts → WfL d ts → I64 k → I64 n → s.size ≤ 9223372036854775807 → m + (encT d k n s ts).length ≤ 1073741824 →
  Calls Try.prog f #[.slice (some ⟨g, 0, none⟩) m cap, .agg #[.int .i64 k, .int .i64 n, .string s, l]] w fun e w' => ∃ g' c', e = .returned (.slice (some ⟨g', 0, none⟩) (zs ++ encT d k n s ts).length c') ∧
    w'.ownsRow w.heap.size 5 1 (.slice (some ⟨g', 0, none⟩) (zs ++ encT d k n s ts).length c') (zs ++ encT d k n s ts).length ((zs ++ encT d k n s ts).map (Value.int .u8)) ∧ Below w.heap.size w w'

theorem bodyE_len (n : Int) (s : ByteArray) : (put s).length = (enc (code s.size)).length + s.size := by rw [put, List.length_append, nums_length]

theorem encT_list {d : Nat} {k n : Int} {s : ByteArray} {ts : List (Tm d)} (h : ¬(k = 1 ∨ k = 3 ∨ k = 2)) : encT d k n s ts = enc (code k) ++ (enc (code ts.length) ++ encL d ts) := by
  rw [encT, bodyE, if_neg (by omega), if_neg (by omega)]

theorem num_len (n : Int) : (enc (code n)).length ≤ 6 := enc_len6 _ (by have := code_bd n; omega)

theorem body_len {d : Nat} {k n : Int} {s : ByteArray} {ts : List (Tm d)} (h : Shape k n s ts.length) (hl : (encL d ts).length ≤ 64 * cntL d ts) : (encT d k n s ts).length ≤ 64 * (1 + cntL d ts) := by
  have h1 := num_len k
  have h2 := num_len n
  have h3 := num_len ts.length
  have h4 := num_len s.size
  have hs : s.size ≤ 20 := by
    rcases h with h | h | h | h | h
    · omega
    · exact h.2.1.2.2
    · omega
    · omega
    · omega
  rw [encT, List.length_append, bodyE]
  split
  · omega
  · split
    · rw [bodyE_len n s]; omega
    · rw [List.length_append]; omega

theorem encL_len : ∀ (d : Nat) (ts : List (Tm d)), OkL d ts → (encL d ts).length ≤ 64 * cntL d ts := by
  intro d
  induction d with
  | zero => intro ts _; exact Nat.zero_le _
  | succ d ih =>
    intro ts
    induction ts with
    | nil => intro _; exact Nat.zero_le _
    | cons t r ihr =>
      intro h
      obtain ⟨h1, h2⟩ := h t (List.mem_cons_self ..)
      have h3 := ihr fun u hu => h u (List.mem_cons_of_mem _ hu)
      have h4 : (encT d t.K t.N t.S t.L).length ≤ 64 * (1 + cntL d t.L) := body_len h1 (ih t.L h2)
      have e1 : (encL (d + 1) (t :: r)).length = (encT d t.K t.N t.S t.L).length + (encL (d + 1) r).length := by
        show (List.flatMap _ (t :: r)).length = _
        rw [List.flatMap_cons, List.length_append]; rfl
      have e2 : cntL (d + 1) (t :: r) = (1 + cntL d t.L) + cntL (d + 1) r := by simp [cntL]
      omega

theorem right_len {d : Nat} {k n : Int} {s : ByteArray} {ts : List (Tm d)} (h : Right d k n s ts 8 300) : (encT d k n s ts).length ≤ 19200 := by
  have := body_len h.1 (encL_len d ts h.2.1)
  have := h.2.2.2
  omega

end Go.Proofs.Ytbllnmafilabpaa
