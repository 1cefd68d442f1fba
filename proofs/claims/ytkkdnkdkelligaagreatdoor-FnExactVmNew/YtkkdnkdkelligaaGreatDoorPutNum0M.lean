/- Plain facts, without the program: the groups of seven bits of a number, the lowest first. -/
import Derived.Laws.Bits128
import Derived.WalkKit
import Derived.Test.YtkkdnkdkelligaaGreatDoorNumM
import Derived.Laws.CopyOwn
import Derived.Lib.AppendStr
import Derived.Test.YtkkdnkdkelligaaGreatDoorOkM
import Derived.Test.YtkkdnkdkelligaaGreatDoorIOkM
namespace Go.Proofs.YtkkdnkdkelligaaGreatDoor

/-- The groups of a code, with fuel. -/
def encF : Nat → Int → List Int
  | 0, c => [c]
  | f + 1, c => if 127 < c then (c % 128 + 128) :: encF f (c / 128) else [c]

/-- The groups of a code. -/
def enc (c : Int) : List Int := encF c.toNat c

theorem encF_more : ∀ (f g : Nat) (c : Int), c.toNat ≤ f → c.toNat ≤ g → encF f c = encF g c := by
  intro f
  induction f with
  | zero =>
    intro g c hf _
    cases g with
    | zero => rfl
    | succ g => rw [encF, encF, if_neg (by omega)]
  | succ f ih =>
    intro g c hf hg
    cases g with
    | zero => rw [encF, encF, if_neg (by omega)]
    | succ g =>
      rw [encF, encF]
      by_cases h : 127 < c
      · rw [if_pos h, if_pos h, ih g (c / 128) (by omega) (by omega)]
      · rw [if_neg h, if_neg h]

theorem enc_go (c : Int) (h : 127 < c) : enc c = (c % 128 + 128) :: enc (c / 128) := by
  unfold enc
  obtain ⟨f, hf⟩ : ∃ f, c.toNat = f + 1 := ⟨c.toNat - 1, by omega⟩
  rw [hf, encF, if_pos h, encF_more f (c / 128).toNat (c / 128) (by omega) (by omega)]

theorem enc_end (c : Int) (h : c ≤ 127) : enc c = [c] := by
  unfold enc
  cases hf : c.toNat with
  | zero => rfl
  | succ f => rw [encF, if_neg (by omega)]

theorem enc_len_pos (c : Int) : 1 ≤ (enc c).length := by
  by_cases h : 127 < c
  · rw [enc_go c h]; simp
  · rw [enc_end c (by omega)]; simp

theorem enc_len : ∀ (k : Nat) (c : Int), c < 2 ^ (7 * (k + 1)) → (enc c).length ≤ k + 1 := by
  intro k
  induction k with
  | zero => intro c h; rw [enc_end c (by simpa using (by omega : c ≤ 127))]; simp
  | succ k ih =>
    intro c h
    by_cases h1 : 127 < c
    · have hp : (2 : Int) ^ (7 * (k + 1 + 1)) = 2 ^ (7 * (k + 1)) * 128 := by
        rw [show 7 * (k + 1 + 1) = 7 * (k + 1) + 7 from by omega, Int.pow_add]; rfl
      rw [hp] at h
      have h2 := ih (c / 128) (by omega)
      rw [enc_go c h1]
      simp; omega
    · rw [enc_end c (by omega)]; simp

theorem enc_len6 (c : Int) (h : c ≤ 4398046511103) : (enc c).length ≤ 6 := by
  have hp : (2 : Int) ^ (7 * (5 + 1)) = 4398046511104 := by decide
  exact enc_len 5 c (by omega)

theorem enc_bytes : ∀ (f : Nat) (c : Int), 0 ≤ c → c.toNat ≤ f → ∀ x ∈ encF f c, 0 ≤ x ∧ x ≤ 255 := by
  intro f
  induction f with
  | zero => intro c h0 hf x hx; simp [encF] at hx; omega
  | succ f ih =>
    intro c h0 hf x hx
    rw [encF] at hx
    by_cases h : 127 < c
    · rw [if_pos h] at hx
      rcases List.mem_cons.1 hx with rfl | hx
      · omega
      · exact ih (c / 128) (by omega) (by omega) x hx
    · rw [if_neg h] at hx
      simp at hx; omega

theorem enc_byte (c : Int) (h0 : 0 ≤ c) : ∀ x ∈ enc c, 0 ≤ x ∧ x ≤ 255 := enc_bytes c.toNat c h0 (Nat.le_refl _)

/-- A number, or the nearest that is kept. -/
def clamp (n : Int) : Int := if 1000000000000 < n then 1000000000000 else if n < -1000000000000 then -1000000000000 else n

/-- The code of a number. -/
def code (n : Int) : Int := if clamp n < 0 then -2 * clamp n - 1 else 2 * clamp n

theorem clamp_bd (n : Int) : -1000000000000 ≤ clamp n ∧ clamp n ≤ 1000000000000 := by unfold clamp; split <;> (try split) <;> omega
theorem code_bd (n : Int) : 0 ≤ code n ∧ code n ≤ 2000000000000 := by have := clamp_bd n; unfold code; split <;> omega

theorem or128 (y : Int) (h0 : 0 ≤ y) (h1 : y < 128) : bits .or .i64 y 128 = y + 128 := by
  have hc : bits .or .i64 y 128 = bits .or .i64 128 y := by simp only [bits, BitVec.or_comm]
  rw [hc, bits_join .i64 62 (by decide) (fun n h₀ h₁ => by rw [IntKind.wrap_i64]; omega) 7 128 y (by decide) (by decide) (by decide) h0 h1 (by omega)]
  omega

end Go.Proofs.YtkkdnkdkelligaaGreatDoor

/- What the program's putting of a number comes to: a copy of the bytes in new memory, and the groups behind it. -/
namespace Go.Proofs.YtkkdnkdkelligaaGreatDoor
open Go.RowKit

theorem ret1p {a b : Int} (h : a = b) : Ending.returned (.int .i64 a) = .returned (.int .i64 b) := by rw [h]

theorem u8_size : (Tryz.prog.info? 5).map (·.size) = some 1 := by kernel_rfl

/-- From a block's whole row to what is owned. -/
theorem own_of_row {w : World} {g n base : Nat} {xs : List Value} (h : w.heap[g]? = some (.cells xs.toArray 5 (0, 0))) (hx : xs.length = n) (hb : base ≤ g) (hm : n ≤ maxLen) :
    w.ownsRow base 5 1 (.slice (some ⟨g, 0, none⟩) n n) n xs :=
  ⟨by omega, .inr ⟨g, n, xs.toArray, rfl, hb, h, Nat.le_refl _, hm, by simp; omega, by rw [List.take_of_length_le (by simp; omega)]⟩⟩

end Go.Proofs.YtkkdnkdkelligaaGreatDoor

/- What the program's appending of one number comes to: its groups behind the bytes, in place or in new memory. -/
namespace Go.Proofs.YtkkdnkdkelligaaGreatDoor
open Go.RowKit

theorem one_new (w : World) (x : Value) (t : TypeId) : ∀ j u, [x][j]? = some u → (w.alloc (.cells #[x] t)).cell? ((⟨w.heap.size, 0, none⟩ : Addr).add j) = some u := by
  intro j u hj
  match j, hj with
  | 0, hj => simp at hj; subst hj; simp [Addr.add]

theorem snoc_map (xs : List Int) (x : Int) : xs.map (Value.int .u8) ++ [Value.int .u8 x] = (xs ++ [x]).map (Value.int .u8) := by simp

end Go.Proofs.YtkkdnkdkelligaaGreatDoor

/- The law's own helpers that mark a row of bytes and ask whether the marks are held. -/
namespace Go.Proofs.YtkkdnkdkelligaaGreatDoor
open Go.RowKit

/-- The marks from 1 on of the first k bytes, behind them what was there. -/
def marked (xs : List Value) (k : Nat) : List Value := (List.range k).map (fun i : Nat => Value.int .u8 (((i : Int) + 1) % 256)) ++ xs.drop k

theorem marked_len (xs : List Value) (k : Nat) (h : k ≤ xs.length) : (marked xs k).length = xs.length := by simp [marked]; omega
theorem marked_step (xs : List Value) (k : Nat) (h : k < xs.length) : (marked xs k).set k (.int .u8 (((k : Int) + 1) % 256)) = marked xs (k + 1) := by
  unfold marked
  rw [List.set_append_right _ _ (by simp), List.length_map, List.length_range, Nat.sub_self, List.drop_eq_getElem_cons h, List.set_cons_zero, List.range_succ]
  simp

theorem marked_at (xs : List Value) (n j : Nat) (h : j < n) : (marked xs n)[j]? = some (.int .u8 (((j : Int) + 1) % 256)) := by
  unfold marked
  rw [List.getElem?_append_left (by simpa using h)]
  simp [h]

/-- What is owned stays owned where the block is as it was. -/
theorem own_same {w w' : World} {B g n c : Nat} {xs : List Value} (h : w.ownsRow B 5 1 (.slice (some ⟨g, 0, none⟩) n c) n xs) (hh : w'.heap[g]? = w.heap[g]?) : w'.ownsRow B 5 1 (.slice (some ⟨g, 0, none⟩) n c) n xs := by
  refine ⟨h.1, ?_⟩
  rcases h.2 with ⟨h', _⟩ | ⟨g', cap', cur, h', hb, hg, r⟩
  · simp at h'
  · simp only [Value.slice.injEq, Option.some.injEq, Addr.mk.injEq, and_true, true_and] at h'
    obtain ⟨rfl, rfl⟩ := h'
    exact .inr ⟨g, c, cur, rfl, hb, by rw [hh]; exact hg, r⟩

theorem own_below {w w' : World} {B g n c : Nat} {xs : List Value} (h : w.ownsRow B 5 1 (.slice (some ⟨g, 0, none⟩) n c) n xs) (hb : Below w.heap.size w w') : w'.ownsRow B 5 1 (.slice (some ⟨g, 0, none⟩) n c) n xs :=
  own_same h (hb.block g (own_lt h))

theorem own_grown {w w' : World} {B g k n c : Nat} {xs : List Value} (h : w.ownsRow B 5 1 (.slice (some ⟨g, 0, none⟩) n c) n xs) (hb : w.grownBy w' (some k)) (hne : g ≠ k) : w'.ownsRow B 5 1 (.slice (some ⟨g, 0, none⟩) n c) n xs :=
  own_same h (hb.block g (own_lt h) (by simpa using hne))

theorem own_drewN {w : World} {B n : Nat} {v : Value} {xs : List Value} (h : w.ownsRow B 5 1 v n xs) (q : Nat) : (w.drewN q).ownsRow B 5 1 v n xs := by
  induction q with
  | zero => exact h
  | succ q ih => exact ih.drew

/-- What is owned and is not empty lies at the head of a row. -/
theorem own_shape {w : World} {B n : Nat} {v : Value} {xs : List Value} (h : w.ownsRow B 5 1 v n xs) (hn : 0 < n) : ∃ g c, v = .slice (some ⟨g, 0, none⟩) n c ∧ B ≤ g := by
  rcases h.2 with ⟨_, h0⟩ | ⟨g, c, cur, h1, h2, _⟩
  · omega
  · exact ⟨g, c, h1, h2⟩

/-- A row of the call's own, as a slice that comes in. -/
theorem own_isRow {w : World} {B g n c : Nat} {xs : List Int} (h : w.ownsRow B 5 1 (.slice (some ⟨g, 0, none⟩) n n) n (xs.map (Value.int .u8))) (hr : ∀ x ∈ xs, 0 ≤ x ∧ x ≤ 255) (hc : c = n) (hm : n ≤ maxLen) : IsRow .u8 w (some ⟨g, 0, none⟩) n c xs := by
  subst hc
  have hl : xs.length = c := by have := h.1; simpa using this
  exact .inr ⟨_, rfl, Nat.le_refl _, hm, hl, fun i hi => by have := own_cells h i (by omega); rw [Addr.add_lit]; exact this, fun x hx => by have := hr x hx; exact WalkArith.wf_u8 (by omega)⟩

end Go.Proofs.YtkkdnkdkelligaaGreatDoor

/- What the model's putting of a number comes to: the same bytes as the program's. -/
namespace Go.Proofs.YtkkdnkdkelligaaGreatDoor
open Go.RowKit

theorem code_hi {n : Int} (h : 1000000000000 < n) : code n = 2000000000000 := by
  have : clamp n = 1000000000000 := by unfold clamp; rw [if_pos h]
  unfold code; rw [this]; rfl
theorem code_lo {n : Int} (h : n < -1000000000000) : code n = 1999999999999 := by
  have : clamp n = -1000000000000 := by unfold clamp; rw [if_neg (by omega), if_pos h]
  unfold code; rw [this]; rfl
theorem code_neg {n : Int} (h1 : -1000000000000 ≤ n) (h : n < 0) : code n = -2 * n - 1 := by
  have : clamp n = n := by unfold clamp; rw [if_neg (by omega), if_neg (by omega)]
  unfold code; rw [this, if_pos h]
theorem code_pos {n : Int} (h1 : n ≤ 1000000000000) (h : 0 ≤ n) : code n = 2 * n := by
  have : clamp n = n := by unfold clamp; rw [if_neg (by omega), if_neg (by omega)]
  unfold code; rw [this, if_neg (by omega)]

end Go.Proofs.YtkkdnkdkelligaaGreatDoor

/- What putting a text comes to, in the program and in the model: its size's groups, then its bytes. -/
namespace Go.Proofs.YtkkdnkdkelligaaGreatDoor
open Go.RowKit

/-- A text's bytes as numbers. -/
def nums (s : ByteArray) : List Int := s.data.toList.map fun b => (b.toNat : Int)

theorem nums_cells (s : ByteArray) : Lib.strCells s = (nums s).map (Value.int .u8) := by simp [Lib.strCells, nums]
theorem nums_length (s : ByteArray) : (nums s).length = s.size := by rw [nums, List.length_map, Array.length_toList]; rfl

/-- The bytes of a text behind its size. -/
def put (s : ByteArray) : List Int := enc (code s.size) ++ nums s

end Go.Proofs.YtkkdnkdkelligaaGreatDoor

/- The bytes of a term, and that the model's putting of it makes them. -/
namespace Go.Proofs.YtkkdnkdkelligaaGreatDoor
open Go.RowKit
set_option linter.unusedVariables false

/-- What is put behind a term's kind. -/
def bodyE (k n : Int) (s : ByteArray) (len : Nat) (rest : List Int) : List Int :=
  if k = 1 ∨ k = 3 then enc (code n) else if k = 2 then put s else enc (code len) ++ rest

/-- The bytes of the terms of a list, one behind the other. -/
def encL : (d : Nat) → List (Tm d) → List Int
  | 0, _ => []
  | d + 1, ts => ts.flatMap fun t => enc (code t.K) ++ bodyE t.K t.N t.S t.L.length (encL d t.L)

/-- The bytes of a term. -/
def encT (d : Nat) (k n : Int) (s : ByteArray) (ts : List (Tm d)) : List Int := enc (code k) ++ bodyE k n s ts.length (encL d ts)

def encP (d : Nat) (ts : List (Tm (d + 1))) (j : Nat) : List Int := (ts.take j).flatMap fun t => enc (code t.K) ++ bodyE t.K t.N t.S t.L.length (encL d t.L)

theorem encP_succ (d : Nat) (ts : List (Tm (d + 1))) (j : Nat) (t : Tm (d + 1)) (h : ts[j]? = some t) : encP d ts (j + 1) = encP d ts j ++ encT d t.K t.N t.S t.L := by
  have hl := (List.getElem?_eq_some_iff.1 h).1
  have he := (List.getElem?_eq_some_iff.1 h).2
  unfold encP
  rw [List.take_succ_eq_append_getElem hl, he]
  simp [encT]
theorem encP_all (d : Nat) (ts : List (Tm (d + 1))) (j : Nat) (h : ts.length ≤ j) : encP d ts j = encL (d + 1) ts := by
  unfold encP; rw [List.take_of_length_le h]; rfl
theorem encP_le (d : Nat) (ts : List (Tm (d + 1))) (j : Nat) : (encP d ts j).length ≤ (encL (d + 1) ts).length := by
  show _ ≤ (ts.flatMap _).length
  unfold encP
  conv => rhs; rw [← List.take_append_drop j ts]
  rw [List.flatMap_append, List.length_append]
  omega

/-- The contract of the putting of a term behind bytes. -/
def PutC (f d : Nat) : Prop := ∀ (g m cap : Nat) (zs : List Int) (k n : Int) (s : ByteArray) (l : Value) (ts : List (Tm d)) (w : World), zs.length = m → g < w.heap.size → (∀ i, i < m → w.cell? ⟨g, 0 + i, none⟩ = some (.int .u8 (zs.getD i 0))) →
  RdL d w l ts → WfL d ts → I64 k → I64 n → s.size ≤ 9223372036854775807 → m + (encT d k n s ts).length ≤ 1073741824 →
  Calls Tryz.prog f #[.slice (some ⟨g, 0, none⟩) m cap, .agg #[.int .i64 k, .int .i64 n, .string s, l]] w fun e w' => ∃ g' c', e = .returned (.slice (some ⟨g', 0, none⟩) (zs ++ encT d k n s ts).length c') ∧
    w'.ownsRow w.heap.size 5 1 (.slice (some ⟨g', 0, none⟩) (zs ++ encT d k n s ts).length c') (zs ++ encT d k n s ts).length ((zs ++ encT d k n s ts).map (Value.int .u8)) ∧ Below w.heap.size w w'

theorem bodyE_len (n : Int) (s : ByteArray) : (put s).length = (enc (code s.size)).length + s.size := by rw [put, List.length_append, nums_length]

theorem encT_list {d : Nat} {k n : Int} {s : ByteArray} {ts : List (Tm d)} (h : ¬(k = 1 ∨ k = 3 ∨ k = 2)) : encT d k n s ts = enc (code k) ++ (enc (code ts.length) ++ encL d ts) := by
  rw [encT, bodyE, if_neg (by omega), if_neg (by omega)]

theorem num_len (n : Int) : (enc (code n)).length ≤ 6 := enc_len6 _ (by have := code_bd n; omega)

theorem body_len {d : Nat} {k n : Int} {s : ByteArray} {ts : List (Tm d)} (h : Shape k n s ts.length) (hl : (encL d ts).length ≤ 64 * cntL d ts) : (encT d k n s ts).length ≤ 64 * (1 + cntL d ts) := by
  have h1 := num_len k
  have h2 := num_len n
  have h3 := num_len ts.length
  have h4 := num_len s.size
  have hs : s.size ≤ 20 := by
    rcases h with h | h | h | h | h
    · omega
    · exact h.2.1.2.2
    · omega
    · omega
    · omega
  rw [encT, List.length_append, bodyE]
  split
  · omega
  · split
    · rw [bodyE_len n s]; omega
    · rw [List.length_append]; omega

theorem encL_len : ∀ (d : Nat) (ts : List (Tm d)), OkL d ts → (encL d ts).length ≤ 64 * cntL d ts := by
  intro d
  induction d with
  | zero => intro ts _; exact Nat.zero_le _
  | succ d ih =>
    intro ts
    induction ts with
    | nil => intro _; exact Nat.zero_le _
    | cons t r ihr =>
      intro h
      obtain ⟨h1, h2⟩ := h t (List.mem_cons_self ..)
      have h3 := ihr fun u hu => h u (List.mem_cons_of_mem _ hu)
      have h4 : (encT d t.K t.N t.S t.L).length ≤ 64 * (1 + cntL d t.L) := body_len h1 (ih t.L h2)
      have e1 : (encL (d + 1) (t :: r)).length = (encT d t.K t.N t.S t.L).length + (encL (d + 1) r).length := by
        show (List.flatMap _ (t :: r)).length = _
        rw [List.flatMap_cons, List.length_append]; rfl
      have e2 : cntL (d + 1) (t :: r) = (1 + cntL d t.L) + cntL (d + 1) r := by simp [cntL]
      omega

theorem right_len {d : Nat} {k n : Int} {s : ByteArray} {ts : List (Tm d)} (h : Right d k n s ts 8 300) : (encT d k n s ts).length ≤ 19200 := by
  have := body_len h.1 (encL_len d ts h.2.1)
  have := h.2.2.2
  omega

end Go.Proofs.YtkkdnkdkelligaaGreatDoor

/- The program's bytes of a term: those of the model. -/
namespace Go.Proofs.YtkkdnkdkelligaaGreatDoor
open Go.RowKit
set_option linter.unusedVariables false

/-- A kind that a term may have. -/
theorem shape_kind {k n : Int} {s : ByteArray} {len : Nat} (h : Shape k n s len) : k = 1 ∨ k = 2 ∨ k = 3 ∨ k = 4 ∨ k = 5 := by
  rcases h with h | h | h | h | h
  · exact .inl h.1
  · exact .inr (.inl h.1)
  · exact .inr (.inr (.inl h.1))
  · exact .inr (.inr (.inr (.inl h.1)))
  · exact .inr (.inr (.inr (.inr h.1)))

/-- What is owned stays so where only new blocks come. -/
theorem ownsRow_later {w w' : World} {B n : Nat} {v : Value} {xs : List Value} (h : w.ownsRow B 5 1 v n xs) (hb : Below w.heap.size w w') : w'.ownsRow B 5 1 v n xs := by
  obtain ⟨h1, h2⟩ := h
  refine ⟨h1, ?_⟩
  rcases h2 with h2 | ⟨g, c, cur, e1, e2, e3, e4⟩
  · exact .inl h2
  · exact .inr ⟨g, c, cur, e1, e2, (hb.block g (Nat.lt_of_not_le fun hn => by rw [Array.getElem?_eq_none hn] at e3; cases e3)).trans e3, e4⟩

theorem owns_some {w : World} {B n : Nat} {v : Value} {xs : List Value} (h : w.ownsRow B 5 1 v n xs) (hn : 0 < n) : ∃ g c, v = .slice (some ⟨g, 0, none⟩) n c := by
  rcases h.2 with ⟨_, h2⟩ | ⟨g, c, cur, e1, _⟩
  · omega
  · exact ⟨g, c, e1⟩

end Go.Proofs.YtkkdnkdkelligaaGreatDoor
