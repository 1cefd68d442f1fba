/- The text of an expression. -/
import Derived.Test.YtgeedoeaepcmcaaGreatDoorLk1M
import Derived.Test.YtgeedoeaepcmcaaGreatDoorTTextM
import Derived.Test.YtgeedoeaepcmcaaGreatDoorXmM
import Derived.Test.YtgeedoeaepcmcaaGreatDoorTmM
import Derived.BigQuiet
namespace Go.Proofs.YtgeedoeaepcmcaaGreatDoor
open Go.RowKit
set_option linter.unusedVariables false

/-- Bytes as a text. -/
def ba (l : List UInt8) : ByteArray := ⟨l.toArray⟩
theorem ba_size (l : List UInt8) : (ba l).size = l.length := by simp [ba, ByteArray.size]
theorem ba_app (l m : List UInt8) : ba l ++ ba m = ba (l ++ m) := by apply ByteArray.ext; rw [ByteArray.data_append]; simp [ba]
theorem ba_list (s : ByteArray) : ba s.data.toList = s := rfl
theorem ba_toList (l : List UInt8) : (ba l).data.toList = l := rfl

/-- One behind the other, with something between. -/
def joinS (sep : List UInt8) : List (List UInt8) → List UInt8
  | [] => []
  | x :: xs => xs.foldl (fun a y => (a ++ sep) ++ y) x

theorem joinS_snoc (sep x : List UInt8) (l : List (List UInt8)) (y : List UInt8) : joinS sep ((x :: l) ++ [y]) = (joinS sep (x :: l) ++ sep) ++ y := by
  show List.foldl _ _ (l ++ [y]) = _
  rw [List.foldl_append]; rfl
theorem joinS_succ (sep : List UInt8) (l : List (List UInt8)) (j : Nat) (y : List UInt8) (h : l[j]? = some y) : joinS sep (l.take (j + 1)) = (if 0 < j then joinS sep (l.take j) ++ sep else joinS sep (l.take j)) ++ y := by
  have hl := (List.getElem?_eq_some_iff.1 h).1
  rw [List.take_succ_eq_append_getElem hl, (List.getElem?_eq_some_iff.1 h).2]
  cases hT : l.take j with
  | nil =>
    have : j = 0 := by
      have := congrArg List.length hT
      rw [List.length_take, List.length_nil] at this
      omega
    rw [if_neg (by omega)]
    rfl
  | cons x r =>
    have : 0 < j := by
      have := congrArg List.length hT
      rw [List.length_take, List.length_cons] at this
      omega
    rw [if_pos this, joinS_snoc]
theorem foldl_len (sep : List UInt8) : ∀ (l : List (List UInt8)) (a : List UInt8), (l.foldl (fun a y => (a ++ sep) ++ y) a).length = a.length + (l.map fun x => sep.length + x.length).sum := by
  intro l
  induction l with
  | nil => intro a; simp
  | cons x l ih => intro a; rw [List.foldl_cons, ih]; simp; omega
theorem joinS_len (sep : List UInt8) (l : List (List UInt8)) : (joinS sep l).length ≤ (l.map fun x => sep.length + x.length).sum := by
  cases l with
  | nil => exact Nat.zero_le _
  | cons x l => rw [joinS, foldl_len]; simp
theorem sum_take_le (f : List UInt8 → Nat) (l : List (List UInt8)) (j : Nat) : ((l.take j).map f).sum ≤ (l.map f).sum := by
  conv => rhs; rw [← List.take_append_drop j l]
  rw [List.map_append, List.sum_append]; omega
theorem sum_drop_le (f : List UInt8 → Nat) (l : List (List UInt8)) (j : Nat) : ((l.drop j).map f).sum ≤ (l.map f).sum := by
  conv => rhs; rw [← List.take_append_drop j l]
  rw [List.map_append, List.sum_append]; omega
theorem sum_both (f : List UInt8 → Nat) (l : List (List UInt8)) (j : Nat) : ((l.take j).map f).sum + ((l.drop j).map f).sum = (l.map f).sum := by
  conv => rhs; rw [← List.take_append_drop j l]
  rw [List.map_append, List.sum_append]
theorem joinS_take_len (sep : List UInt8) (l : List (List UInt8)) (j : Nat) : (joinS sep (l.take j)).length ≤ (l.map fun x => sep.length + x.length).sum := Nat.le_trans (joinS_len sep _) (sum_take_le _ l j)

def cmm : List UInt8 := [44, 32]
def smc : List UInt8 := [59, 32]
def arr : List UInt8 := [32, 45, 62, 32]

/-- The text of an expression, of its fields and of the texts within. -/
def bodyX (k n : Int) (s : List UInt8) (ts cs : List (List UInt8)) : List UInt8 :=
  if k = 1 then (intText n).data.toList else if k = 2 ∨ k = 3 then s else if k = 4 then ([123] ++ joinS cmm ts) ++ [125] else if k = 5 then ([91] ++ joinS cmm ts) ++ [93]
  else if k = 6 then (([91] ++ joinS cmm (ts.take (ts.length - 1))) ++ [32, 124, 32]) ++ (joinS cmm (ts.drop (ts.length - 1)) ++ [93])
  else if k = 7 then (([40] ++ joinS cmm (ts.take 1)) ++ (([32] ++ s) ++ [32])) ++ (joinS cmm (ts.drop 1) ++ [41])
  else if k = 8 then ((s ++ [40]) ++ joinS cmm ts) ++ [41]
  else ((([99, 97, 115, 101, 32] ++ joinS cmm ts) ++ [32, 111, 102, 32]) ++ joinS smc cs) ++ [32, 101, 110, 100]

def txtX : (d : Nat) → Ex d → List UInt8
  | 0, _ => []
  | d + 1, e => bodyX e.K e.N e.S.data.toList (e.E.map (txtX d)) (e.C.map fun c => (txtX d c.1 ++ arr) ++ txtX d c.2)

theorem ba_len (s : ByteArray) : s.data.toList.length = s.size := Array.length_toList
theorem toList_len (s : ByteArray) (l : List UInt8) (e : s.toList = l) : s.size = l.length := by rw [← e, ByteArray.toList_eq, Array.length_toList]; rfl

theorem fit_size {k n : Int} {s : ByteArray} {e c : Nat} (h : Fit k n s e c) : s.size ≤ 20 := by
  obtain ⟨_, _, h⟩ := h
  rcases h with h | h | h | h | h | h | h | h
  · omega
  · exact h.2.1.1.2.2
  · exact h.2.1.2.2
  · omega
  · omega
  · rcases h.2.1 with h1 | h1 | h1 | h1 | h1 <;> · have h9 := toList_len s _ h1; simp only [List.length_cons, List.length_nil] at h9; omega
  · exact h.2.1.1.2.2
  · omega

theorem bodyX_len {k n : Int} {s : ByteArray} {e c : Nat} (hf : Fit k n s e c) (ts cs : List (List UInt8)) : (bodyX k n s.data.toList ts cs).length ≤ 22 + (ts.map fun x => 2 + x.length).sum + (cs.map fun x => 2 + x.length).sum := by
  have hs := fit_size hf
  have hi := intText_size n
  have e1 := ba_len s
  have e2 := ba_len (intText n)
  have h0 := joinS_len cmm ts
  have h1 := joinS_len cmm (ts.take (ts.length - 1))
  have h2 := joinS_len cmm (ts.drop (ts.length - 1))
  have h3 := joinS_len cmm (ts.take 1)
  have h4 := joinS_len cmm (ts.drop 1)
  have h5 := joinS_len smc cs
  have s1 := sum_both (fun x => 2 + x.length) ts (ts.length - 1)
  have s2 := sum_both (fun x => 2 + x.length) ts 1
  have c1 : cmm.length = 2 := rfl
  have c2 : smc.length = 2 := rfl
  rw [c1] at h0 h1 h2 h3 h4
  rw [c2] at h5
  unfold bodyX
  split
  · omega
  split
  · omega
  split
  · simp only [List.length_append, List.length_cons, List.length_nil]; omega
  split
  · simp only [List.length_append, List.length_cons, List.length_nil]; omega
  split
  · simp only [List.length_append, List.length_cons, List.length_nil]; omega
  split
  · rename_i hk
    have ho : s.size ≤ 2 := by
      subst hk
      obtain ⟨_, _, ho, _⟩ := (fit7 _ _ _ _).1 hf
      rcases ho with h1 | h1 | h1 | h1 | h1 <;> · have h9 := toList_len s _ h1; simp only [List.length_cons, List.length_nil] at h9; omega
    simp only [List.length_append, List.length_cons, List.length_nil]; omega
  split
  · simp only [List.length_append, List.length_cons, List.length_nil]; omega
  · simp only [List.length_append, List.length_cons, List.length_nil]; omega

theorem sum_map_le {α : Type} (f g : α → Nat) : ∀ (l : List α), (∀ x ∈ l, f x ≤ g x) → (l.map f).sum ≤ (l.map g).sum := by
  intro l
  induction l with
  | nil => intro _; exact Nat.le_refl _
  | cons x l ih => intro h; have h1 := h x (List.mem_cons_self ..); have h2 := ih fun y hy => h y (List.mem_cons_of_mem _ hy); simp only [List.map_cons, List.sum_cons]; omega
theorem sum_map_mul {α : Type} (f : α → Nat) (k : Nat) : ∀ (l : List α), (l.map fun x => k * f x).sum = k * (l.map f).sum := by
  intro l
  induction l with
  | nil => rfl
  | cons x l ih => simp only [List.map_cons, List.sum_cons, ih, Nat.mul_add]

theorem txtX_len : ∀ (d : Nat) (pat : Bool) (deep : Int) (e : Ex d), GoodX d pat deep e → (txtX d e).length + 8 ≤ 32 * cntX d e := by
  intro d
  induction d with
  | zero => intro pat deep e h; exact h.elim
  | succ d ih =>
    intro pat deep e h
    obtain ⟨_, h1, h2, h3⟩ := h
    have hb := bodyX_len h1.1 (e.E.map (txtX d)) (e.C.map fun c => (txtX d c.1 ++ arr) ++ txtX d c.2)
    rw [List.map_map, List.map_map] at hb
    have q1 := sum_map_le ((fun x : List UInt8 => 2 + x.length) ∘ txtX d) (fun x => 32 * cntX d x) e.E (fun x hx => by have := ih _ _ x (h2 x hx); show 2 + (txtX d x).length ≤ _; omega)
    have q2 := sum_map_le ((fun x : List UInt8 => 2 + x.length) ∘ fun c : Ex d × Ex d => (txtX d c.1 ++ arr) ++ txtX d c.2) (fun x => 32 * ClF (cntX d) x) e.C (fun x hx => by
      have a1 := ih _ _ x.1 (h3 x hx).2.1
      have a2 := ih _ _ x.2 (h3 x hx).2.2
      show 2 + ((txtX d x.1 ++ arr) ++ txtX d x.2).length ≤ 32 * (cntX d x.1 + cntX d x.2)
      rw [List.length_append, List.length_append]
      have : arr.length = 4 := rfl
      omega)
    rw [sum_map_mul] at q1 q2
    have h4 : cntX (d + 1) e = 1 + (e.E.map (cntX d)).sum + (e.C.map (ClF (cntX d))).sum := rfl
    show (bodyX e.K e.N e.S.data.toList (e.E.map (txtX d)) (e.C.map fun c => (txtX d c.1 ++ arr) ++ txtX d c.2)).length + 8 ≤ _
    omega

end Go.Proofs.YtgeedoeaepcmcaaGreatDoor

/- The model's text of an expression. -/
namespace Go.Proofs.YtgeedoeaepcmcaaGreatDoor
open Go.RowKit
set_option linter.unusedVariables false

/-- The contract of the model's writing. -/
def TxC (d : Nat) : Prop := ∀ (vs : List Value) (e : Ex d) (pat : Bool) (deep : Int) (w : World), ExC d w vs e → GoodX d pat deep e → cntX d e ≤ 1000 →
  Calls Tryz.prog 11 #[.agg vs.toArray] w fun r w' => r = .returned (.string (ba (txtX d e))) ∧ Below w.heap.size w w'

/-- Expressions that lie one behind the other. -/
def ElR (d : Nat) (w : World) (a : Option Addr) (es : List (Ex d)) : Prop := ∀ (i : Nat) (e : Ex d), es[i]? = some e → ∃ b o vs, a = some ⟨b, o, none⟩ ∧ vs.length = 5 ∧ (∀ (j : Nat) (u : Value), vs[j]? = some u → w.cell? ⟨b, o + i * 5 + j, none⟩ = some u) ∧ ExC d w vs e

theorem ElR.take {d : Nat} {w : World} {a : Option Addr} {es : List (Ex d)} (h : ElR d w a es) (n : Nat) : ElR d w a (es.take n) := fun i e he => by
  have hi : i < n := by have := (List.getElem?_eq_some_iff.1 he).1; rw [List.length_take] at this; omega
  rw [List.getElem?_take, if_pos hi] at he
  exact h i e he
theorem ElR.later {d : Nat} {w w' : World} {a : Option Addr} {es : List (Ex d)} (h : ElR d w a es) (hb : Below w.heap.size w w') : ElR d w' a es := fun i e he => by
  obtain ⟨b, o, vs, h1, h2, h3, h4⟩ := h i e he
  exact ⟨b, o, vs, h1, h2, fun j u hu => cell_later hb (h3 j u hu), ExC.lasts d _ _ _ _ h4 hb⟩

def sumLen (l : List (List UInt8)) : Nat := (l.map fun x => 2 + x.length).sum

theorem sumLen_le (d : Nat) (pat : Bool) (deep : Int) (es : List (Ex d)) (h : ∀ x ∈ es, GoodX d pat deep x) : sumLen (es.map (txtX d)) ≤ 32 * (es.map (cntX d)).sum := by
  unfold sumLen
  rw [List.map_map, ← sum_map_mul]
  refine sum_map_le _ _ es fun x hx => ?_
  have := txtX_len d pat deep x (h x hx)
  show 2 + (txtX d x).length ≤ _
  omega
theorem cnt_mem {d : Nat} {es : List (Ex d)} {x : Ex d} (h : x ∈ es) : cntX d x ≤ (es.map (cntX d)).sum := by
  induction es with
  | nil => cases h
  | cons y es ih =>
    simp only [List.map_cons, List.sum_cons]
    rcases List.mem_cons.1 h with rfl | h
    · omega
    · have := ih h; omega
theorem joinS_lim (sep : List UInt8) (h2 : sep.length = 2) (l : List (List UInt8)) (j : Nat) : (joinS sep (l.take j)).length ≤ sumLen l := by
  have := joinS_take_len sep l j
  rw [h2] at this
  exact this

set_option maxHeartbeats 1000000 in
theorem l5List_of (d : Nat) (H : TxC d) (pat : Bool) (deep : Int) (es : List (Ex d)) (a : Option Addr) (c : Nat) (w : World) (he : ElR d w a es) (hg : ∀ x ∈ es, GoodX d pat deep x) (hc : (es.map (cntX d)).sum ≤ 1000) (hl : es.length ≤ 1048576) :
    Calls Tryz.prog 22 #[.slice a es.length c] w fun r w' => r = .returned (.string (ba (joinS cmm (es.map (txtX d))))) ∧ Below w.heap.size w w' := by
  have HE : Hid (ElR d w a es) := he
  have HG : Hid (∀ x ∈ es, GoodX d pat deep x) := hg
  have HC : Hid ((es.map (cntX d)).sum ≤ 1000) := hc
  have HH : Hid (TxC d) := H
  have HS : Hid (∀ j, (joinS cmm ((es.map (txtX d)).take j)).length ≤ 32000) := fun j => by
    have h1 := joinS_lim cmm rfl (es.map (txtX d)) j
    have h2 := sumLen_le d pat deep es hg
    omega
  obtain ⟨len, hlen⟩ : ∃ l, es.length = l := ⟨_, rfl⟩
  have HL : Hid (es.length = len) := hlen
  rw [hlen] at hl ⊢
  clear he hg hc H hlen
  go_enter Tryz.func22, Tryz.ntmps22
  go_wp2_with fail
  go_loopw [3, 4] (fun x i wr => ∃ (j : Nat) (p : ByteArray), j ≤ len ∧ i = .int .i64 j ∧ x = .string p ∧ p.size ≤ 32000 ∧ Hid (Below w.heap.size w wr) ∧ Hid (p = ba (joinS cmm ((es.map (txtX d)).take j)))) (fun _ i _ => len - (intOf i).toNat)
  case atStart => exact ⟨0, ⟨#[]⟩, Nat.zero_le _, rfl, rfl, Nat.zero_le _, Below.refl _ _, rfl⟩
  case round =>
    obtain ⟨j, p, hj, rfl, rfl, hps, hb, HP⟩ := hrel
    by_cases hjl : j < len
    · obtain ⟨t, ht⟩ : ∃ t, es[j]? = some t := ⟨_, List.getElem?_eq_getElem (by rw [HL.out]; exact hjl)⟩
      obtain ⟨b, o, vs, rfl, hvl, hcell, hre⟩ := HE.out j t ht
      obtain ⟨y0, y1, y2, ya3, yl3, yc3, ya4, yl4, yc4, rfl⟩ := ExC.shape _ _ _ _ hre
      have f0 : wr.cell? ⟨b, o + j * 5, none⟩ = some _ := cell_later hb.out (hcell 0 _ rfl)
      have f1 : wr.cell? ⟨b, o + j * 5 + 1, none⟩ = some _ := cell_later hb.out (hcell 1 _ rfl)
      have f2 : wr.cell? ⟨b, o + j * 5 + 2, none⟩ = some _ := cell_later hb.out (hcell 2 _ rfl)
      have f3 : wr.cell? ⟨b, o + j * 5 + 3, none⟩ = some _ := cell_later hb.out (hcell 3 _ rfl)
      have f4 : wr.cell? ⟨b, o + j * 5 + 4, none⟩ = some _ := cell_later hb.out (hcell 4 _ rfl)
      have hm := List.mem_of_getElem? ht
      have hC := HH.out _ t pat deep wr (ExC.lasts d _ _ _ _ hre hb.out) (HG.out t hm) (Nat.le_trans (cnt_mem hm) HC.out)
      have hst := joinS_succ cmm (es.map (txtX d)) j (txtX d t) (by rw [List.getElem?_map, ht]; rfl)
      have hD : (ba (txtX d t)).size ≤ 32000 := by
        rw [ba_size]
        have h1 := txtX_len d pat deep t (HG.out t hm)
        have h2 := cnt_mem hm
        have := HC.out
        omega
      have HZ := HS.out (j + 1)
      rw [← ba_size] at HZ
      have hjl' : (j : Int) < (len : Int) := by omega
      have hcm : (ba cmm).size = 2 := rfl
      by_cases hj0 : 0 < j
      · rw [if_pos hj0] at hst
        have HST : Hid (ba (joinS cmm ((es.map (txtX d)).take (j + 1))) = (p ++ ba cmm) ++ ba (txtX d t)) := by
          show _ = _
          rw [HP.out, ba_app, ba_app, hst]
        obtain ⟨D, hDD⟩ : ∃ D, ba (txtX d t) = D := ⟨_, rfl⟩
        obtain ⟨Q, hQ⟩ : ∃ Q, ba (joinS cmm ((es.map (txtX d)).take (j + 1))) = Q := ⟨_, rfl⟩
        have HQ : Hid (Q = _) := hQ.symm
        rw [hDD] at hC HST hD
        rw [hQ] at HST HZ
        have hps2 : (p ++ ba cmm).size ≤ 32002 := by rw [ByteArray.size_append, hcm]; omega
        have hj1 : (0 : Int) < (j : Int) := by omega
        clear hcell hre hvl hst ht hm hDD hQ HP
        go_wp2_with fail
        refine hC.mono ?_
        clear hC
        rintro e V ⟨rfl, hB⟩
        have hb2 : Hid (Below w.heap.size w V) := hb.out.trans (hB.mono hb.out.size)
        have HF : Hid ((p ++ ba cmm) ++ D = Q) := HST.out.symm
        have hsz : ((p ++ ba cmm) ++ D).size ≤ 32000 := by rw [HF.out]; exact HZ
        clear hb hB f0 f1 f2 f3 f4 HST HZ
        go_wp2_with fail
        go_roundw
        case rel => exact ⟨j + 1, _, by omega, by go_num, rfl, hsz, hb2, by show _ = _; rw [← HQ.out]; exact HF.out⟩
        case measure => simp [intOf]; omega
      · rw [if_neg hj0] at hst
        have hj1 : decide ((0 : Int) < (j : Int)) = false := by simp; omega
        have HST : Hid (ba (joinS cmm ((es.map (txtX d)).take (j + 1))) = p ++ ba (txtX d t)) := by
          show _ = _
          rw [HP.out, ba_app, hst]
        obtain ⟨D, hDD⟩ : ∃ D, ba (txtX d t) = D := ⟨_, rfl⟩
        obtain ⟨Q, hQ⟩ : ∃ Q, ba (joinS cmm ((es.map (txtX d)).take (j + 1))) = Q := ⟨_, rfl⟩
        have HQ : Hid (Q = _) := hQ.symm
        rw [hDD] at hC HST hD
        rw [hQ] at HST HZ
        clear hcell hre hvl hst ht hm hDD hQ HP
        go_wp2_with fail
        refine hC.mono ?_
        clear hC
        rintro e V ⟨rfl, hB⟩
        have hb2 : Hid (Below w.heap.size w V) := hb.out.trans (hB.mono hb.out.size)
        have HF : Hid (p ++ D = Q) := HST.out.symm
        have hsz : (p ++ D).size ≤ 32000 := by rw [HF.out]; exact HZ
        clear hb hB f0 f1 f2 f3 f4 HST HZ
        go_wp2_with fail
        go_roundw
        case rel => exact ⟨j + 1, _, by omega, by go_num, rfl, hsz, hb2, by show _ = _; rw [← HQ.out]; exact HF.out⟩
        case measure => simp [intOf]; omega
    · obtain rfl : j = len := by omega
      have HR : Hid (p = ba (joinS cmm (es.map (txtX d)))) := by
        have := HP.out
        rw [List.take_of_length_le (by rw [List.length_map, HL.out]; exact Nat.le_refl _)] at this
        exact this
      have hjl' : decide ((j : Int) < (j : Int)) = false := by simp
      have hbw := hb.out
      clear HP HE HG HH hb
      go_wp2_with fail
      go_ret
      exact ⟨by rw [HR.out]; rfl, hbw⟩

end Go.Proofs.YtgeedoeaepcmcaaGreatDoor
