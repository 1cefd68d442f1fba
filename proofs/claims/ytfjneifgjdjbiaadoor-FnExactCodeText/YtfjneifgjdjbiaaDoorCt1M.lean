/- The text of code, as data. -/
import Derived.Test.YtfjneifgjdjbiaaDoorCk1M
import Derived.Test.YtfjneifgjdjbiaaDoorTTextM
namespace Go.Proofs.YtfjneifgjdjbiaaDoor
open Go.RowKit
set_option linter.unusedVariables false
set_option linter.unusedSimpArgs false

/-- The text of an instruction. -/
def insT (op n : Int) (s : ByteArray) (tq : Int) : ByteArray :=
  if op = 1 then ((⟨#[105, 110, 116, 32]⟩ : ByteArray) ++ intText n) else if op = 2 then ((⟨#[97, 116, 111, 109, 32]⟩ : ByteArray) ++ s) else if op = 3 then ((⟨#[108, 111, 97, 100, 32]⟩ : ByteArray) ++ intText n) else if op = 4 then ((⟨#[116, 117, 112, 108, 101, 32]⟩ : ByteArray) ++ intText n) else if op = 5 then ((⟨#[108, 105, 115, 116, 32]⟩ : ByteArray) ++ intText n) else if op = 6 then ((⟨#[99, 111, 110, 115, 32]⟩ : ByteArray) ++ intText n) else if op = 7 then ((⟨#[111, 112, 32]⟩ : ByteArray) ++ s) else if op = 8 then ((((⟨#[99, 97, 108, 108, 32]⟩ : ByteArray) ++ s) ++ ⟨#[32]⟩) ++ intText n) else if op = 9 then ((((⟨#[109, 97, 116, 99, 104, 32]⟩ : ByteArray) ++ intText n) ++ ⟨#[32]⟩) ++ intText tq) else if op = 10 then ((⟨#[106, 117, 109, 112, 32]⟩ : ByteArray) ++ intText tq) else if op = 11 then (⟨#[102, 97, 105, 108]⟩ : ByteArray) else (⟨#[114, 101, 116]⟩ : ByteArray)
theorem insT1 (n : Int) (s : ByteArray) (tq : Int) : insT 1 n s tq = ((⟨#[105, 110, 116, 32]⟩ : ByteArray) ++ intText n) := by simp [insT]
theorem insT2 (n : Int) (s : ByteArray) (tq : Int) : insT 2 n s tq = ((⟨#[97, 116, 111, 109, 32]⟩ : ByteArray) ++ s) := by simp [insT]
theorem insT3 (n : Int) (s : ByteArray) (tq : Int) : insT 3 n s tq = ((⟨#[108, 111, 97, 100, 32]⟩ : ByteArray) ++ intText n) := by simp [insT]
theorem insT4 (n : Int) (s : ByteArray) (tq : Int) : insT 4 n s tq = ((⟨#[116, 117, 112, 108, 101, 32]⟩ : ByteArray) ++ intText n) := by simp [insT]
theorem insT5 (n : Int) (s : ByteArray) (tq : Int) : insT 5 n s tq = ((⟨#[108, 105, 115, 116, 32]⟩ : ByteArray) ++ intText n) := by simp [insT]
theorem insT6 (n : Int) (s : ByteArray) (tq : Int) : insT 6 n s tq = ((⟨#[99, 111, 110, 115, 32]⟩ : ByteArray) ++ intText n) := by simp [insT]
theorem insT7 (n : Int) (s : ByteArray) (tq : Int) : insT 7 n s tq = ((⟨#[111, 112, 32]⟩ : ByteArray) ++ s) := by simp [insT]
theorem insT8 (n : Int) (s : ByteArray) (tq : Int) : insT 8 n s tq = ((((⟨#[99, 97, 108, 108, 32]⟩ : ByteArray) ++ s) ++ ⟨#[32]⟩) ++ intText n) := by simp [insT]
theorem insT9 (n : Int) (s : ByteArray) (tq : Int) : insT 9 n s tq = ((((⟨#[109, 97, 116, 99, 104, 32]⟩ : ByteArray) ++ intText n) ++ ⟨#[32]⟩) ++ intText tq) := by simp [insT]
theorem insT10 (n : Int) (s : ByteArray) (tq : Int) : insT 10 n s tq = ((⟨#[106, 117, 109, 112, 32]⟩ : ByteArray) ++ intText tq) := by simp [insT]
theorem insT11 (n : Int) (s : ByteArray) (tq : Int) : insT 11 n s tq = (⟨#[102, 97, 105, 108]⟩ : ByteArray) := by simp [insT]
theorem insT12 (n : Int) (s : ByteArray) (tq : Int) : insT 12 n s tq = (⟨#[114, 101, 116]⟩ : ByteArray) := by simp [insT]

theorem app3 (a b c : ByteArray) : (a ++ b) ++ c = a ++ (b ++ c) := by apply ByteArray.ext; simp [ByteArray.data_append, Array.append_assoc]
theorem insTP1 (n : Int) (s : ByteArray) (tq : Int) : ((⟨#[105, 110, 116]⟩ : ByteArray) ++ (⟨#[32]⟩ ++ intText n)) = insT 1 n s tq := by
  rw [insT1]
  apply ByteArray.ext
  simp [ByteArray.data_append, Array.append_assoc]
theorem insTP2 (n : Int) (s : ByteArray) (tq : Int) : ((⟨#[97, 116, 111, 109]⟩ : ByteArray) ++ (⟨#[32]⟩ ++ s)) = insT 2 n s tq := by
  rw [insT2]
  apply ByteArray.ext
  simp [ByteArray.data_append, Array.append_assoc]
theorem insTP3 (n : Int) (s : ByteArray) (tq : Int) : ((⟨#[108, 111, 97, 100]⟩ : ByteArray) ++ (⟨#[32]⟩ ++ intText n)) = insT 3 n s tq := by
  rw [insT3]
  apply ByteArray.ext
  simp [ByteArray.data_append, Array.append_assoc]
theorem insTP4 (n : Int) (s : ByteArray) (tq : Int) : ((⟨#[116, 117, 112, 108, 101]⟩ : ByteArray) ++ (⟨#[32]⟩ ++ intText n)) = insT 4 n s tq := by
  rw [insT4]
  apply ByteArray.ext
  simp [ByteArray.data_append, Array.append_assoc]
theorem insTP5 (n : Int) (s : ByteArray) (tq : Int) : ((⟨#[108, 105, 115, 116]⟩ : ByteArray) ++ (⟨#[32]⟩ ++ intText n)) = insT 5 n s tq := by
  rw [insT5]
  apply ByteArray.ext
  simp [ByteArray.data_append, Array.append_assoc]
theorem insTP6 (n : Int) (s : ByteArray) (tq : Int) : ((⟨#[99, 111, 110, 115]⟩ : ByteArray) ++ (⟨#[32]⟩ ++ intText n)) = insT 6 n s tq := by
  rw [insT6]
  apply ByteArray.ext
  simp [ByteArray.data_append, Array.append_assoc]
theorem insTP7 (n : Int) (s : ByteArray) (tq : Int) : ((⟨#[111, 112]⟩ : ByteArray) ++ (⟨#[32]⟩ ++ s)) = insT 7 n s tq := by
  rw [insT7]
  apply ByteArray.ext
  simp [ByteArray.data_append, Array.append_assoc]
theorem insTP8 (n : Int) (s : ByteArray) (tq : Int) : (((⟨#[99, 97, 108, 108]⟩ : ByteArray) ++ (⟨#[32]⟩ ++ s)) ++ (⟨#[32]⟩ ++ intText n)) = insT 8 n s tq := by
  rw [insT8]
  apply ByteArray.ext
  simp [ByteArray.data_append, Array.append_assoc]
theorem insTP9 (n : Int) (s : ByteArray) (tq : Int) : (((⟨#[109, 97, 116, 99, 104]⟩ : ByteArray) ++ (⟨#[32]⟩ ++ intText n)) ++ (⟨#[32]⟩ ++ intText tq)) = insT 9 n s tq := by
  rw [insT9]
  apply ByteArray.ext
  simp [ByteArray.data_append, Array.append_assoc]
theorem insTP10 (n : Int) (s : ByteArray) (tq : Int) : ((⟨#[106, 117, 109, 112]⟩ : ByteArray) ++ (⟨#[32]⟩ ++ intText tq)) = insT 10 n s tq := by
  rw [insT10]
  apply ByteArray.ext
  simp [ByteArray.data_append, Array.append_assoc]
theorem insTP11 (n : Int) (s : ByteArray) (tq : Int) : (⟨#[102, 97, 105, 108]⟩ : ByteArray) = insT 11 n s tq := by rw [insT11]
theorem insTP12 (n : Int) (s : ByteArray) (tq : Int) : (⟨#[114, 101, 116]⟩ : ByteArray) = insT 12 n s tq := by rw [insT12]

theorem app_size (a b : ByteArray) : (a ++ b).size = a.size + b.size := by simp [ByteArray.size_append]
theorem insT_size {op n : Int} {s : ByteArray} {tq : Int} (h1 : 1 ≤ op) (h2 : op ≤ 12) (hs : s.size ≤ 20) : (insT op n s tq).size ≤ 70 := by
  have k1 := intText_size n
  have k2 := intText_size tq
  have : op = 1 ∨ op = 2 ∨ op = 3 ∨ op = 4 ∨ op = 5 ∨ op = 6 ∨ op = 7 ∨ op = 8 ∨ op = 9 ∨ op = 10 ∨ op = 11 ∨ op = 12 := by omega
  rcases this with rfl | rfl | rfl | rfl | rfl | rfl | rfl | rfl | rfl | rfl | rfl | rfl
  · have c1 : (⟨#[105, 110, 116, 32]⟩ : ByteArray).size = 4 := rfl
    have c2 : (⟨#[32]⟩ : ByteArray).size = 1 := rfl
    rw [insT1]
    simp only [app_size]
    omega
  · have c1 : (⟨#[97, 116, 111, 109, 32]⟩ : ByteArray).size = 5 := rfl
    have c2 : (⟨#[32]⟩ : ByteArray).size = 1 := rfl
    rw [insT2]
    simp only [app_size]
    omega
  · have c1 : (⟨#[108, 111, 97, 100, 32]⟩ : ByteArray).size = 5 := rfl
    have c2 : (⟨#[32]⟩ : ByteArray).size = 1 := rfl
    rw [insT3]
    simp only [app_size]
    omega
  · have c1 : (⟨#[116, 117, 112, 108, 101, 32]⟩ : ByteArray).size = 6 := rfl
    have c2 : (⟨#[32]⟩ : ByteArray).size = 1 := rfl
    rw [insT4]
    simp only [app_size]
    omega
  · have c1 : (⟨#[108, 105, 115, 116, 32]⟩ : ByteArray).size = 5 := rfl
    have c2 : (⟨#[32]⟩ : ByteArray).size = 1 := rfl
    rw [insT5]
    simp only [app_size]
    omega
  · have c1 : (⟨#[99, 111, 110, 115, 32]⟩ : ByteArray).size = 5 := rfl
    have c2 : (⟨#[32]⟩ : ByteArray).size = 1 := rfl
    rw [insT6]
    simp only [app_size]
    omega
  · have c1 : (⟨#[111, 112, 32]⟩ : ByteArray).size = 3 := rfl
    have c2 : (⟨#[32]⟩ : ByteArray).size = 1 := rfl
    rw [insT7]
    simp only [app_size]
    omega
  · have c1 : (⟨#[99, 97, 108, 108, 32]⟩ : ByteArray).size = 5 := rfl
    have c2 : (⟨#[32]⟩ : ByteArray).size = 1 := rfl
    rw [insT8]
    simp only [app_size]
    omega
  · have c1 : (⟨#[109, 97, 116, 99, 104, 32]⟩ : ByteArray).size = 6 := rfl
    have c2 : (⟨#[32]⟩ : ByteArray).size = 1 := rfl
    rw [insT9]
    simp only [app_size]
    omega
  · have c1 : (⟨#[106, 117, 109, 112, 32]⟩ : ByteArray).size = 5 := rfl
    have c2 : (⟨#[32]⟩ : ByteArray).size = 1 := rfl
    rw [insT10]
    simp only [app_size]
    omega
  · have c1 : (⟨#[102, 97, 105, 108]⟩ : ByteArray).size = 4 := rfl
    have c2 : (⟨#[32]⟩ : ByteArray).size = 1 := rfl
    rw [insT11]
    omega
  · have c1 : (⟨#[114, 101, 116]⟩ : ByteArray).size = 3 := rfl
    have c2 : (⟨#[32]⟩ : ByteArray).size = 1 := rfl
    rw [insT12]
    omega

/-- A line behind a text. -/
def lnA (acc : ByteArray) (k : Nat) (x : DIns) : ByteArray := (((acc ++ intText (k : Int)) ++ ⟨#[32]⟩) ++ insT x.Op x.N x.S x.To) ++ ⟨#[10]⟩
def lnsA : ByteArray → Nat → List DIns → ByteArray
  | acc, _, [] => acc
  | acc, k, x :: l => lnsA (lnA acc k x) (k + 1) l
def hdA (acc : ByteArray) (f : DFn) : ByteArray := (((((acc ++ f.Name) ++ ⟨#[47]⟩) ++ intText f.Args) ++ ⟨#[32]⟩) ++ intText f.Slots) ++ ⟨#[10]⟩
def fnA (acc : ByteArray) (f : DFn) : ByteArray := lnsA (hdA acc f) 0 f.Ins
def cdA (acc : ByteArray) (fs : List DFn) : ByteArray := fs.foldl fnA acc
theorem lnsA_take (acc : ByteArray) (l : List DIns) : ∀ (k j : Nat) (x : DIns), l[j]? = some x → lnsA acc k (l.take (j + 1)) = lnA (lnsA acc k (l.take j)) (k + j) x := by
  induction l generalizing acc with
  | nil => intro k j x h; simp at h
  | cons y l ih =>
    intro k j x h
    cases j with
    | zero => simp at h; subst h; simp [lnsA]
    | succ j =>
      have := ih (lnA acc k y) (k + 1) j x (by simpa using h)
      rw [List.take_succ_cons, List.take_succ_cons]
      simp only [lnsA]
      rw [this, show k + 1 + j = k + (j + 1) by omega]
theorem cdA_take (acc : ByteArray) (l : List DFn) (j : Nat) (f : DFn) (h : l[j]? = some f) : cdA acc (l.take (j + 1)) = fnA (cdA acc (l.take j)) f := by
  obtain ⟨h1, h2⟩ := List.getElem?_eq_some_iff.1 h
  unfold cdA
  rw [List.take_succ_eq_append_getElem h1, h2, List.foldl_append]
  rfl
theorem one_size (x : UInt8) : (⟨#[x]⟩ : ByteArray).size = 1 := rfl
theorem lnA_size {acc : ByteArray} {k : Nat} {x : DIns} (h1 : 1 ≤ x.Op) (h2 : x.Op ≤ 12) (hs : x.S.size ≤ 20) : (lnA acc k x).size ≤ acc.size + 100 := by
  have h3 := insT_size (n := x.N) (tq := x.To) h1 h2 hs
  have h4 := intText_size (k : Int)
  unfold lnA
  simp only [app_size, one_size]
  omega
theorem lnsA_size {l : List DIns} (h : ∀ x ∈ l, (1 ≤ x.Op ∧ x.Op ≤ 12) ∧ x.S.size ≤ 20) : ∀ (acc : ByteArray) (k : Nat), (lnsA acc k l).size ≤ acc.size + 100 * l.length := by
  induction l with
  | nil => intro acc k; simp [lnsA]
  | cons x l ih =>
    intro acc k
    have h1 := ih (fun y hy => h y (by simp [hy])) (lnA acc k x) (k + 1)
    have h2 := h x (by simp)
    have h3 := lnA_size (acc := acc) (k := k) h2.1.1 h2.1.2 h2.2
    simp only [lnsA, List.length_cons]
    omega
theorem hdA_size {acc : ByteArray} {f : DFn} (h : f.Name.size ≤ 20) : (hdA acc f).size ≤ acc.size + 100 := by
  have h3 := intText_size f.Args
  have h4 := intText_size f.Slots
  unfold hdA
  simp only [app_size, one_size]
  omega

/-- What of code is small enough. -/
def Small (fs : List DFn) : Prop := ∀ f ∈ fs, f.Name.size ≤ 20 ∧ f.Ins.length ≤ 1500 ∧ (∀ x ∈ f.Ins, (1 ≤ x.Op ∧ x.Op ≤ 12) ∧ x.S.size ≤ 20)
theorem fnA_size {acc : ByteArray} {f : DFn} (h : f.Name.size ≤ 20 ∧ f.Ins.length ≤ 1500 ∧ (∀ x ∈ f.Ins, (1 ≤ x.Op ∧ x.Op ≤ 12) ∧ x.S.size ≤ 20)) : (fnA acc f).size ≤ acc.size + 150100 := by
  have h1 := lnsA_size h.2.2 (hdA acc f) 0
  have h2 := hdA_size (acc := acc) h.1
  have := h.2.1
  unfold fnA
  omega
theorem cdA_size {fs : List DFn} (h : Small fs) : ∀ acc : ByteArray, (cdA acc fs).size ≤ acc.size + 150100 * fs.length := by
  induction fs with
  | nil => intro acc; simp [cdA]
  | cons f fs ih =>
    intro acc
    have h1 := ih (fun y hy => h y (by simp [hy])) (fnA acc f)
    have h2 := fnA_size (acc := acc) (h f (by simp))
    have e : cdA acc (f :: fs) = cdA (fnA acc f) fs := rfl
    rw [e, List.length_cons]
    omega
theorem op_small {s : ByteArray} (h : OpP s) : s.size ≤ 20 := by
  have e : s.size = s.toList.length := by rw [ByteArray.toList_eq, Array.length_toList]; rfl
  unfold OpP at h
  rcases h with h | h | h | h | h <;> (rw [e, h]; decide)
theorem code_small {d : Nat} {c : DCode d} (h : pCodeOk d c) : Small c.Fns := fun f hf => by
  obtain ⟨i, hi, e⟩ := List.getElem_of_mem hf
  have hfp := h.2.2 i f (by rw [List.getElem?_eq_getElem hi, e])
  refine ⟨hfp.1.1.2.2, hfp.2.2.2.2.1.2, fun x hx => ?_⟩
  have hx' := hfp.2.2.2.2.2.1 x hx
  refine ⟨hx'.op, ?_⟩
  unfold InsP at hx'
  rcases hx' with q | q | q | q | q | q | q | q | q | q | q | q
  · have := q.2.1; omega
  · exact q.2.2.2.1.2.2
  · have := q.2.1; omega
  · have := q.2.1; omega
  · have := q.2.1; omega
  · have := q.2.1; omega
  · exact op_small q.2.2.2
  · obtain ⟨k, g, r1, r2, r3⟩ := q.2.2
    have h4 := h.2.2 k g r2
    rcases fidx_cases (fun f : DFn => decide (f.Name = x.S)) c.Fns with ⟨s1, _⟩ | ⟨k', g', s1, s2, s3, _⟩
    · have : fnIx c.Fns x.S = -1 := s1
      omega
    · have e2 : fnIx c.Fns x.S = k' := s1
      obtain rfl : k = k' := by omega
      rw [r2] at s2
      cases s2
      have e3 : g.Name = x.S := by simpa using s3
      rw [← e3]
      exact h4.1.1.2.2
  · have := q.2.1; omega
  · have := q.2.1; omega
  · have := q.2.1; omega
  · have := q.2.1; omega

/-- The numbers that are told. -/
def Nums (fs : List DFn) : Prop := ∀ f ∈ fs, ((0 ≤ f.Args ∧ f.Args ≤ 4) ∧ (0 ≤ f.Slots ∧ f.Slots ≤ 400)) ∧ ∀ x ∈ f.Ins, (0 ≤ x.N ∧ x.N ≤ 1000000000000) ∧ (0 ≤ x.To ∧ x.To ≤ 1500)
theorem code_nums {d : Nat} {c : DCode d} (h : pCodeOk d c) : Nums c.Fns := fun f hf => by
  obtain ⟨i, hi, e⟩ := List.getElem_of_mem hf
  have hfp := h.2.2 i f (by rw [List.getElem?_eq_getElem hi, e])
  obtain ⟨p1, p2, p3, p4, p5, p6, p7⟩ := hfp
  refine ⟨⟨p3, by omega, p4.2⟩, fun x hx => ?_⟩
  have hx' := p6 x hx
  have ht := (ToP_iff _ _ _).1 ((rn_iff f.Ins).1 p7).1
  obtain ⟨k, hk, ek⟩ := List.getElem_of_mem hx
  have ht2 := ht k x (by rw [List.getElem?_eq_getElem hk, ek])
  unfold InsP at hx'
  rcases hx' with q | q | q | q | q | q | q | q | q | q | q | q
  · obtain ⟨_, _, _, _, _⟩ := q; omega
  · obtain ⟨_, _, _, _, _⟩ := q; omega
  · obtain ⟨_, _, _, _, _⟩ := q; omega
  · obtain ⟨_, _, _, _, _⟩ := q; omega
  · obtain ⟨_, _, _, _, _⟩ := q; omega
  · obtain ⟨_, _, _, _, _⟩ := q; omega
  · obtain ⟨_, _, _, _⟩ := q; omega
  · obtain ⟨_, _, k', g, r1, r2, r3⟩ := q
    have h4 := (h.2.2 k' g r2).2.2.1
    omega
  · obtain ⟨q0, _, k', g, r1, r2, r3⟩ := q
    have h4 := ht2 (.inl q0)
    have h5 := (List.getElem?_eq_some_iff.1 r2).1
    have h6 := h.2.1
    omega
  · obtain ⟨q0, _, _⟩ := q
    have h4 := ht2 (.inr q0)
    omega
  · obtain ⟨_, _, _, _⟩ := q; omega
  · obtain ⟨_, _, _, _⟩ := q; omega

/-- What CodeText hands back. -/
def CodeTextT (d : Nat) (c : DCode d) (r : ByteArray) : Prop := (pCodeOk d c ∧ r = cdA ⟨#[]⟩ c.Fns) ∨ (¬ pCodeOk d c ∧ r = ⟨#[]⟩)
theorem CodeTextT.same {d : Nat} {c : DCode d} {r r' : ByteArray} (h : CodeTextT d c r) (h' : CodeTextT d c r') : r = r' := by
  rcases h with ⟨h1, rfl⟩ | ⟨h1, rfl⟩
  · rcases h' with ⟨_, rfl⟩ | ⟨h2, _⟩
    · rfl
    · exact absurd h1 h2
  · rcases h' with ⟨h2, _⟩ | ⟨_, rfl⟩
    · exact absurd h2 h1
    · rfl

end Go.Proofs.YtfjneifgjdjbiaaDoor
