/- The text of a term, and that the model's writing of it makes it. -/
import Derived.Test.YtfjneifgjdjbiaaDoorTmM
import Derived.Deep.RegionWith
import Derived.Deep.DeepCutAuto
namespace Go.Proofs.YtfjneifgjdjbiaaDoor
open Go.RowKit
set_option linter.unusedVariables false

/-- The digits of a number of at most f digits. -/
def dg : Nat → Int → ByteArray
  | 0, _ => ⟨#[]⟩
  | f + 1, n => if n < 10 then strOfNums [48 + n] else dg f (n / 10) ++ strOfNums [48 + n % 10]

theorem dg_size : ∀ (f : Nat) (n : Int), (dg f n).size ≤ f := by
  intro f
  induction f with
  | zero => intro n; exact Nat.le_refl 0
  | succ f ih =>
    intro n
    rw [dg]
    have := ih (n / 10)
    split
    · rw [strOfNums_size]; simp
    · rw [ByteArray.size_append, strOfNums_size]; simp; omega

/-- The text of a number. -/
def intText (n : Int) : ByteArray := if n < 0 then ⟨#[45]⟩ ++ dg 18 (-n) else dg 18 n

theorem cv1 (w : World) (x : Int) : (convert 48 9 (.slice (some ⟨w.heap.size, 0, none⟩) 1 1)).run Tryd.prog (w.alloc (.cells #[.int .u8 x] 5)) = .ok (.string (strOfNums [x])) (w.alloc (.cells #[.int .u8 x] 5)) := by
  refine run_convert_bytes_arg _ 48 5 Tryd.underlying48 Tryd.underlying5 w.heap.size 0 1 1 [x] rfl (fun i hi => ?_) 9 Tryd.underlying9
  obtain rfl : i = 0 := by omega
  simp

theorem lit1 (w : World) (x : Value) : (w.drew.alloc (.cells #[x] 5)).cell? ⟨w.heap.size, 0, none⟩ = some x := (cell_of_row _ _ 0 _ _ _ (heap_alloc_new w.drew _)).trans rfl
theorem cvAt (V : World) (g : Nat) (x : Int) (h : V.cell? ⟨g, 0, none⟩ = some (.int .u8 x)) : (convert 48 9 (.slice (some ⟨g, 0, none⟩) 1 1)).run Tryd.prog V = .ok (.string (strOfNums [x])) V := by
  refine run_convert_bytes_arg _ 48 5 Tryd.underlying48 Tryd.underlying5 g 0 1 1 [x] rfl (fun i hi => ?_) 9 Tryd.underlying9
  obtain rfl : i = 0 := by omega
  simpa using h

set_option maxRecDepth 100000 in
set_option maxHeartbeats 1000000 in
theorem specDg_any : ∀ (f : Nat) (n : Int) (w : World), 0 ≤ n → n < 10 ^ f → f ≤ 18 → 0 < f →
    Calls Tryd.prog 12 #[.int .i64 n] w fun e w' => e = .returned (.string (dg f n)) ∧ Below w.heap.size w w' := by
  intro f
  induction f with
  | zero => intro n w _ _ _ h; omega
  | succ f ih =>
    intro n w h0 hn hf _
    have hp : (10 : Int) ^ (f + 1) ≤ 1000000000000000000 := by
      have : (10 : Nat) ^ (f + 1) ≤ 10 ^ 18 := Nat.pow_le_pow_right (by omega) hf
      have e : ((10 ^ (f + 1) : Nat) : Int) = (10 : Int) ^ (f + 1) := by simp
      omega
    have hnb : n < 1000000000000000000 := Int.lt_of_lt_of_le hn hp
    by_cases h : n < 10
    · have HD : Hid (dg (f + 1) n = strOfNums [48 + n]) := by show dg (f + 1) n = _; rw [dg, if_pos h]
      have hcv := cv1 w (48 + n)
      have hD : (strOfNums [48 + n]).size = 1 := by rw [strOfNums_size]; rfl
      generalize strOfNums [48 + n] = D at hcv HD hD
      clear hp hn ih
      go_enter Tryd.func12, Tryd.ntmps12
      go_wp2_with fail
      go_ret
      exact ⟨by rw [HD.out]; rfl, (Below.refl _ _).alloc (Nat.le_refl _) _⟩
    · have hf0 : 0 < f := Nat.pos_of_ne_zero fun e => by subst e; simp at hn; omega
      have hn' : n / 10 < 10 ^ f := by rw [Int.pow_succ] at hn; omega
      have hC := fun W => ih (n / 10) W (by omega) hn' (by omega) hf0
      have HD : Hid (dg (f + 1) n = dg f (n / 10) ++ strOfNums [48 + n % 10]) := by show dg (f + 1) n = _; rw [dg, if_neg h]
      have hs := dg_size f (n / 10)
      generalize dg f (n / 10) = A at hC HD hs
      clear hp hn ih hn'
      go_enter Tryd.func12, Tryd.ntmps12
      have HCV := fun (V : World) (g : Nat) (h : V.cell? ⟨g, 0, none⟩ = some (.int .u8 (48 + n % 10))) => cvAt V g (48 + n % 10) h
      have hD : (strOfNums [48 + n % 10]).size = 1 := by rw [strOfNums_size]; rfl
      generalize strOfNums [48 + n % 10] = D at HCV HD hD
      have q1 : n / 10 = IntKind.i64.wrap (n.tdiv 10) := by rw [Int.tdiv_eq_ediv_of_nonneg h0, IntKind.wrap_i64]; omega
      have q2 : 48 + n % 10 = IntKind.u8.wrap (IntKind.i64.wrap (48 + n.tmod 10)) := by rw [Int.tmod_eq_emod_of_nonneg h0, IntKind.wrap_i64, IntKind.wrap_u8]; omega
      rw [q1] at hC
      rw [q2] at HCV
      clear q1 q2
      go_upto_region 5 with fail
      go_region_with (go_at_call 12; refine (hC _).mono ?_; rintro e V ⟨rfl, hB⟩; try have hcl := cell_later hB (lit1 w _))
      all_goals
        go_wp2_with fail
      all_goals
        go_ret
        refine ⟨by rw [HD.out]; rfl, ?_⟩
        first
          | exact (Below.refl _ _).drew.trans hB
          | exact ((Below.refl _ _).drew.trans hB).alloc hB.size _
          | exact ((Below.refl _ _).drew.alloc (Nat.le_refl _) _).trans (hB.mono (by simp))

set_option maxHeartbeats 400000 in
theorem specInt_any (n : Int) (w : World) (h0 : -1000000000000 ≤ n) (h1 : n ≤ 1000000000000) :
    Calls Tryd.prog 12 #[.int .i64 n] w fun e w' => e = .returned (.string (intText n)) ∧ Below w.heap.size w w' := by
  by_cases h : n < 0
  · have hC := specDg_any 18 (-n) w (by omega) (by omega) (by omega) (by omega)
    have HD : Hid (intText n = ⟨#[45]⟩ ++ dg 18 (-n)) := by show intText n = _; rw [intText, if_pos h]
    have hs := dg_size 18 (-n)
    generalize dg 18 (-n) = A at hC HD hs
    go_enter Tryd.func12, Tryd.ntmps12
    go_wp2_with fail
    refine hC.mono ?_
    clear hC
    rintro e w1 ⟨rfl, hB⟩
    go_wp2_with fail
    go_ret
    exact ⟨by rw [HD.out]; rfl, hB⟩
  · rw [intText, if_neg h]
    exact specDg_any 18 n w (by omega) (by omega) (by omega) (by omega)

def joinB : List ByteArray → ByteArray
  | [] => ⟨#[]⟩
  | x :: xs => xs.foldl (fun a y => (a ++ ⟨#[44]⟩) ++ y) (⟨#[]⟩ ++ x)

theorem joinB_one (y : ByteArray) : joinB [y] = ⟨#[]⟩ ++ y := rfl
theorem joinB_snoc (x : ByteArray) (l : List ByteArray) (y : ByteArray) : joinB ((x :: l) ++ [y]) = (joinB (x :: l) ++ ⟨#[44]⟩) ++ y := by
  show List.foldl _ _ (l ++ [y]) = _
  rw [List.foldl_append]; rfl

/-- The text of a term, of its fields and of what the terms in it make. -/
def bodyT (k n : Int) (s inner : ByteArray) : ByteArray :=
  if k = 1 then intText n else if k = 2 then s else if k = 3 then (⟨#[60]⟩ ++ intText n) ++ ⟨#[62]⟩ else if k = 4 then (⟨#[123]⟩ ++ inner) ++ ⟨#[125]⟩ else (⟨#[91]⟩ ++ inner) ++ ⟨#[93]⟩

def txtL : (d : Nat) → List (Tm d) → List ByteArray
  | 0, _ => []
  | d + 1, ts => ts.map fun t => bodyT t.K t.N t.S (joinB (txtL d t.L))

/-- The text of a term. -/
def txtT (d : Nat) (k n : Int) (s : ByteArray) (ts : List (Tm d)) : ByteArray := bodyT k n s (joinB (txtL d ts))

def txtP (d : Nat) (ts : List (Tm (d + 1))) (j : Nat) : ByteArray := joinB ((txtL (d + 1) ts).take j)

theorem txtP_zero (d : Nat) (ts : List (Tm (d + 1))) : txtP d ts 0 = ⟨#[]⟩ := rfl
theorem txtP_all (d : Nat) (ts : List (Tm (d + 1))) (j : Nat) (h : ts.length ≤ j) : txtP d ts j = joinB (txtL (d + 1) ts) := by
  unfold txtP; rw [List.take_of_length_le (by simpa [txtL] using h)]
theorem txtP_succ (d : Nat) (ts : List (Tm (d + 1))) (j : Nat) (t : Tm (d + 1)) (h : ts[j]? = some t) : txtP d ts (j + 1) = (if 0 < j then txtP d ts j ++ ⟨#[44]⟩ else txtP d ts j) ++ txtT d t.K t.N t.S t.L := by
  have hl := (List.getElem?_eq_some_iff.1 h).1
  have he := (List.getElem?_eq_some_iff.1 h).2
  have hl' : j < (txtL (d + 1) ts).length := by simpa [txtL] using hl
  have he' : (txtL (d + 1) ts)[j] = txtT d t.K t.N t.S t.L := by simp [txtL, he, txtT]
  unfold txtP
  rw [List.take_succ_eq_append_getElem hl', he']
  cases hT : (txtL (d + 1) ts).take j with
  | nil =>
    have : j = 0 := by
      have := congrArg List.length hT
      rw [List.length_take, List.length_nil] at this
      omega
    rw [if_neg (by omega)]
    rfl
  | cons x l =>
    have : 0 < j := by
      have := congrArg List.length hT
      rw [List.length_take, List.length_cons] at this
      omega
    rw [if_pos this, joinB_snoc]

def sumB (l : List ByteArray) : Nat := (l.map fun x => x.size + 1).sum
theorem sumB_append (a b : List ByteArray) : sumB (a ++ b) = sumB a + sumB b := by simp [sumB]
theorem foldl_size : ∀ (l : List ByteArray) (a : ByteArray), (l.foldl (fun a y => (a ++ ⟨#[44]⟩) ++ y) a).size = a.size + sumB l := by
  intro l
  induction l with
  | nil => intro a; simp [sumB]
  | cons x l ih =>
    intro a
    rw [List.foldl_cons, ih, ByteArray.size_append, ByteArray.size_append]
    have e : sumB (x :: l) = (x.size + 1) + sumB l := by simp [sumB]
    have e1 : (⟨#[44]⟩ : ByteArray).size = 1 := rfl
    omega
theorem joinB_size (l : List ByteArray) : (joinB l).size ≤ sumB l := by
  cases l with
  | nil => exact Nat.zero_le _
  | cons x l =>
    rw [joinB, foldl_size, ByteArray.size_append]
    have e : sumB (x :: l) = (x.size + 1) + sumB l := by simp [sumB]
    have e1 : (⟨#[]⟩ : ByteArray).size = 0 := rfl
    omega

theorem intText_size (n : Int) : (intText n).size ≤ 19 := by
  have h1 := dg_size 18 (-n)
  have h2 := dg_size 18 n
  have e1 : (⟨#[45]⟩ : ByteArray).size = 1 := rfl
  unfold intText
  split
  · rw [ByteArray.size_append]; omega
  · omega

theorem bodyT_size {k n : Int} {s inner : ByteArray} {len : Nat} (h : Shape k n s len) : (bodyT k n s inner).size ≤ 21 + inner.size := by
  have hs : s.size ≤ 20 := by
    rcases h with h | h | h | h | h
    · omega
    · exact h.2.1.2.2
    · omega
    · omega
    · omega
  have hi := intText_size n
  unfold bodyT
  split
  · omega
  split
  · omega
  split
  · rw [ByteArray.size_append, ByteArray.size_append]; show 1 + _ + 1 ≤ _; omega
  split
  · rw [ByteArray.size_append, ByteArray.size_append]; show 1 + _ + 1 ≤ _; omega
  · rw [ByteArray.size_append, ByteArray.size_append]; show 1 + _ + 1 ≤ _; omega

theorem txtL_sum : ∀ (d : Nat) (ts : List (Tm d)), OkL d ts → sumB (txtL d ts) ≤ 32 * cntL d ts := by
  intro d
  induction d with
  | zero => intro ts _; exact Nat.zero_le _
  | succ d ih =>
    intro ts
    induction ts with
    | nil => intro _; exact Nat.zero_le _
    | cons t r ihr =>
      intro h
      obtain ⟨h1, h2⟩ := h t (List.mem_cons_self ..)
      have h3 := ihr fun u hu => h u (List.mem_cons_of_mem _ hu)
      have h4 := bodyT_size (inner := joinB (txtL d t.L)) h1
      have h5 := joinB_size (txtL d t.L)
      have h6 := ih t.L h2
      have e1 : sumB (txtL (d + 1) (t :: r)) = ((bodyT t.K t.N t.S (joinB (txtL d t.L))).size + 1) + sumB (txtL (d + 1) r) := by simp [sumB, txtL]
      have e2 : cntL (d + 1) (t :: r) = (1 + cntL d t.L) + cntL (d + 1) r := by simp [cntL]
      omega

theorem txtP_size (d : Nat) (ts : List (Tm (d + 1))) (j : Nat) (h : OkL (d + 1) ts) : (txtP d ts j).size ≤ 32 * cntL (d + 1) ts := by
  have h1 := txtL_sum (d + 1) ts h
  have h2 := joinB_size ((txtL (d + 1) ts).take j)
  have h3 : sumB ((txtL (d + 1) ts).take j) ≤ sumB (txtL (d + 1) ts) := by
    have e := sumB_append ((txtL (d + 1) ts).take j) ((txtL (d + 1) ts).drop j)
    rw [List.take_append_drop] at e
    omega
  unfold txtP
  omega
theorem txtT_size {d : Nat} {k n : Int} {s : ByteArray} {ts : List (Tm d)} (h : Shape k n s ts.length) (ho : OkL d ts) : (txtT d k n s ts).size ≤ 32 + 32 * cntL d ts := by
  have h1 := txtL_sum d ts ho
  have h2 := joinB_size (txtL d ts)
  have h3 := bodyT_size (inner := joinB (txtL d ts)) h
  unfold txtT
  omega

/-- The contract of the writing of a term's text. -/
def TextC (f d : Nat) : Prop := ∀ (k n : Int) (s : ByteArray) (l : Value) (ts : List (Tm d)) (w : World), RdL d w l ts → WfL d ts → Shape k n s ts.length → OkL d ts → cntL d ts ≤ 1000000 →
  Calls Tryd.prog f #[.agg #[.int .i64 k, .int .i64 n, .string s, l]] w fun e w' => e = .returned (.string (txtT d k n s ts)) ∧ Below w.heap.size w w'

theorem shape_n {k n : Int} {s : ByteArray} {len : Nat} (h : Shape k n s len) : -1000000000000 ≤ n ∧ n ≤ 1000000000000 := by
  rcases h with h | h | h | h | h <;> omega

theorem txtT_list {d : Nat} {k n : Int} {s : ByteArray} {ts : List (Tm d)} (h : ¬ (k = 1 ∨ k = 2 ∨ k = 3)) : (k = 4 ∧ txtT d k n s ts = (⟨#[123]⟩ ++ joinB (txtL d ts)) ++ ⟨#[125]⟩) ∨ (¬ k = 4 ∧ txtT d k n s ts = (⟨#[91]⟩ ++ joinB (txtL d ts)) ++ ⟨#[93]⟩) := by
  unfold txtT bodyT
  rw [if_neg (by omega), if_neg (by omega), if_neg (by omega)]
  by_cases h4 : k = 4
  · rw [if_pos h4]; exact .inl ⟨h4, rfl⟩
  · rw [if_neg h4]; exact .inr ⟨h4, rfl⟩

end Go.Proofs.YtfjneifgjdjbiaaDoor
