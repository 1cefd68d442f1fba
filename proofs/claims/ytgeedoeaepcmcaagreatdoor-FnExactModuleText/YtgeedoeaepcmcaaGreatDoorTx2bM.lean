/- The model's text of an expression, whole. -/
import Derived.Test.YtgeedoeaepcmcaaGreatDoorTx1M
namespace Go.Proofs.YtgeedoeaepcmcaaGreatDoor
open Go.RowKit
set_option linter.unusedVariables false

theorem txtX_eq (d : Nat) (e : Ex (d + 1)) : txtX (d + 1) e = bodyX e.K e.N e.S.data.toList (e.E.map (txtX d)) (e.C.map fun c => (txtX d c.1 ++ arr) ++ txtX d c.2) := rfl
theorem joinS_one (sep x : List UInt8) : joinS sep [x] = x := rfl
theorem body1 (n : Int) (s : List UInt8) (ts cs : List (List UInt8)) : bodyX 1 n s ts cs = (intText n).data.toList := rfl
theorem body2 (n : Int) (s : List UInt8) (ts cs : List (List UInt8)) : bodyX 2 n s ts cs = s := rfl
theorem body3 (n : Int) (s : List UInt8) (ts cs : List (List UInt8)) : bodyX 3 n s ts cs = s := rfl
theorem body4 (n : Int) (s : List UInt8) (ts cs : List (List UInt8)) : bodyX 4 n s ts cs = ([123] ++ joinS cmm ts) ++ [125] := rfl
theorem body5 (n : Int) (s : List UInt8) (ts cs : List (List UInt8)) : bodyX 5 n s ts cs = ([91] ++ joinS cmm ts) ++ [93] := rfl
theorem body6 (n : Int) (s : List UInt8) (ts cs : List (List UInt8)) : bodyX 6 n s ts cs = (([91] ++ joinS cmm (ts.take (ts.length - 1))) ++ [32, 124, 32]) ++ (joinS cmm (ts.drop (ts.length - 1)) ++ [93]) := rfl
theorem body7 (n : Int) (s : List UInt8) (ts cs : List (List UInt8)) : bodyX 7 n s ts cs = (([40] ++ joinS cmm (ts.take 1)) ++ (([32] ++ s) ++ [32])) ++ (joinS cmm (ts.drop 1) ++ [41]) := rfl
theorem body8 (n : Int) (s : List UInt8) (ts cs : List (List UInt8)) : bodyX 8 n s ts cs = ((s ++ [40]) ++ joinS cmm ts) ++ [41] := rfl
theorem body9 (n : Int) (s : List UInt8) (ts cs : List (List UInt8)) : bodyX 9 n s ts cs = ((([99, 97, 115, 101, 32] ++ joinS cmm ts) ++ [32, 111, 102, 32]) ++ joinS smc cs) ++ [32, 101, 110, 100] := rfl

/-- What the walks hold in hand of an expression that is right. -/
structure Hand (d : Nat) (w : World) (pat : Bool) (deep : Int) (x : Ex (d + 1)) (a3 : Option Addr) (c3 : Nat) (a4 : Option Addr) : Prop where
  el : ElR d w a3 x.E
  cl : ∀ (i : Nat) (e : Ex d × Ex d), x.C[i]? = some e → ∃ b o vs, a4 = some ⟨b, o, none⟩ ∧ vs.length = 10 ∧ (∀ (j : Nat) (u : Value), vs[j]? = some u → w.cell? ⟨b, o + i * 10 + j, none⟩ = some u) ∧ ClR (ExC d) w vs e
  good : GoodX (d + 1) pat deep x
  cnt : cntX (d + 1) x ≤ 1000
  cap : x.E.length ≤ c3

theorem Hand.sumE {d : Nat} {w : World} {pat : Bool} {deep : Int} {x : Ex (d + 1)} {a3 a4 : Option Addr} {c3 : Nat} (h : Hand d w pat deep x a3 c3 a4) : (x.E.map (cntX d)).sum ≤ 1000 := by
  have := h.cnt
  have e : cntX (d + 1) x = 1 + (x.E.map (cntX d)).sum + (x.C.map (ClF (cntX d))).sum := rfl
  omega
theorem Hand.later {d : Nat} {w w' : World} {pat : Bool} {deep : Int} {x : Ex (d + 1)} {a3 a4 : Option Addr} {c3 : Nat} (h : Hand d w pat deep x a3 c3 a4) (hb : Below w.heap.size w w') : Hand d w' pat deep x a3 c3 a4 :=
  ⟨h.el.later hb, fun i e he => by
    obtain ⟨b, o, vs, h1, h2, h3, h4⟩ := h.cl i e he
    exact ⟨b, o, vs, h1, h2, fun j u hu => cell_later hb (h3 j u hu), ClR.lasts (ExC.lasts d) _ _ _ _ h4 hb⟩, h.good, h.cnt, h.cap⟩
theorem Hand.lens {d : Nat} {w : World} {pat : Bool} {deep : Int} {x : Ex (d + 1)} {a3 a4 : Option Addr} {c3 : Nat} (h : Hand d w pat deep x a3 c3 a4) : x.E.length ≤ 20 ∧ x.C.length ≤ 6 := by
  obtain ⟨h1, h2, h3⟩ := h.good.2.1.1
  rcases h3 with h3 | h3 | h3 | h3 | h3 | h3 | h3 | h3 <;> omega
theorem Hand.parts {d : Nat} {w : World} {pat : Bool} {deep : Int} {x : Ex (d + 1)} {a3 a4 : Option Addr} {c3 : Nat} (h : Hand d w pat deep x a3 c3 a4) {e : Ex d} (he : e ∈ x.E) : GoodX d pat (deep - 1) e ∧ cntX d e ≤ 1000 ∧ (ba (txtX d e)).size ≤ 32000 := by
  have h1 := h.good.2.2.1 e he
  have h2 := Nat.le_trans (cnt_mem he) h.sumE
  have h3 := txtX_len d pat (deep - 1) e h1
  exact ⟨h1, h2, by rw [ba_size]; omega⟩
theorem sum_mem {α : Type} (f : α → Nat) {l : List α} {x : α} (h : x ∈ l) : f x ≤ (l.map f).sum := by
  induction l with
  | nil => cases h
  | cons y l ih =>
    simp only [List.map_cons, List.sum_cons]
    rcases List.mem_cons.1 h with rfl | h
    · omega
    · have := ih h; omega
theorem Hand.clause {d : Nat} {w : World} {pat : Bool} {deep : Int} {x : Ex (d + 1)} {a3 a4 : Option Addr} {c3 : Nat} (h : Hand d w pat deep x a3 c3 a4) {c : Ex d × Ex d} (he : c ∈ x.C) : (GoodX d true (deep - 1) c.1 ∧ cntX d c.1 ≤ 1000 ∧ (ba (txtX d c.1)).size ≤ 32000) ∧ GoodX d false (deep - 1) c.2 ∧ cntX d c.2 ≤ 1000 ∧ (ba (txtX d c.2)).size ≤ 32000 := by
  obtain ⟨_, h1, h2⟩ := h.good.2.2.2 c he
  have h3 := sum_mem (ClF (cntX d)) he
  have h4 : ClF (cntX d) c = cntX d c.1 + cntX d c.2 := rfl
  have h5 := h.cnt
  have h6 : cntX (d + 1) x = 1 + (x.E.map (cntX d)).sum + (x.C.map (ClF (cntX d))).sum := rfl
  have h7 := txtX_len d true (deep - 1) c.1 h1
  have h8 := txtX_len d false (deep - 1) c.2 h2
  exact ⟨⟨h1, by omega, by rw [ba_size]; omega⟩, h2, by omega, by rw [ba_size]; omega⟩

set_option maxRecDepth 100000 in
set_option maxHeartbeats 2000000 in
theorem l5Text_1 (d : Nat) (H : TxC d) (pat : Bool) (deep : Int) (x : Ex (d + 1)) (a3 : Option Addr) (c3 : Nat) (a4 : Option Addr) (c4 : Nat) (w : World) (h : Hand d w pat deep x a3 c3 a4) (hk : x.K = 1) (R : ByteArray) (hR0 : R = ba (txtX (d + 1) x)) :
    Calls Tryz.prog 11 #[.agg #[.int .i64 x.K, .int .i64 x.N, .string x.S, .slice a3 x.E.length c3, .slice a4 x.C.length c4]] w fun r w' => r = .returned (.string R) ∧ Below w.heap.size w w' := by
  rw [txtX_eq, hk, body1] at hR0
  rw [hk]
  have HH : Hid (Hand d w pat deep x a3 c3 a4) := h
  have hfit := h.good.2.1.1
  rw [hk] at hfit
  have hf := (fit1 _ _ _ _).1 hfit
  have hsz := fit_size hfit
  have hlen := h.lens
  obtain ⟨len, hl⟩ : ∃ l, x.E.length = l := ⟨_, rfl⟩
  obtain ⟨l4, hl4⟩ : ∃ l, x.C.length = l := ⟨_, rfl⟩
  obtain ⟨N, hN⟩ : ∃ N, x.N = N := ⟨_, rfl⟩
  obtain ⟨S, hS⟩ : ∃ S, x.S = S := ⟨_, rfl⟩
  have HL : Hid (x.E.length = len ∧ x.C.length = l4) := ⟨hl, hl4⟩
  have HT : Hid (TxC d) := H
  rw [hN, hS, hl, hl4] at hf
  rw [hl, hl4] at hlen
  rw [hS] at hsz
  try rw [hS] at hR0
  try rw [hN] at hR0
  rw [hN, hS, hl, hl4]
  obtain ⟨W, hW⟩ : ∃ W, W = w.alloc (.cells #[.int .i64 1, .int .i64 N, .string S, .slice a3 len c3, .slice a4 l4 c4] 39) := ⟨_, rfl⟩
  have hA : Below w.heap.size w W := by rw [hW]; exact (Below.refl _ _).alloc (Nat.le_refl _) _
  have hWz : w.heap.size < W.heap.size := by rw [hW]; simp
  have hB1 : W.heap[w.heap.size]? = some (.cells #[.int .i64 1, .int .i64 N, .string S, .slice a3 len c3, .slice a4 l4 c4] 39 (0, 0)) := by rw [hW]; exact heap_alloc_new w _
  have HHW : Hid (Hand d W pat deep x a3 c3 a4) := h.later hA
  have HW : Hid (W = _) := hW
  have hC := specInt_any N W (by omega) (by omega)
  rw [hW] at hC
  obtain ⟨D, hD⟩ : ∃ D, intText N = D := ⟨_, rfl⟩
  have hDs := intText_size N
  rw [hD] at hC hDs
  have HR : Hid (ba (intText N).data.toList = D) := by rw [hD]; exact ba_list D
  clear hD hW
  have HRR : Hid (R = _) := hR0.trans HR.out
  clear hl hl4 hN hS H h hfit hR0 HR
  try clear hf
  go_enter Tryz.func11, Tryz.ntmps11
  go_wp2_with fail
  refine hC.mono ?_
  clear hC
  rintro e w1 ⟨rfl, hB⟩
  rw [← HW.out] at hB
  have hb : Below w.heap.size w w1 := hA.trans (hB.mono hA.size)
  clear hB hB1
  go_wp2_with fail
  go_ret
  exact ⟨by rw [HRR.out]; rfl, hb⟩

set_option maxRecDepth 100000 in
set_option maxHeartbeats 2000000 in
theorem l5Text_2 (d : Nat) (H : TxC d) (pat : Bool) (deep : Int) (x : Ex (d + 1)) (a3 : Option Addr) (c3 : Nat) (a4 : Option Addr) (c4 : Nat) (w : World) (h : Hand d w pat deep x a3 c3 a4) (hk : x.K = 2) (R : ByteArray) (hR0 : R = ba (txtX (d + 1) x)) :
    Calls Tryz.prog 11 #[.agg #[.int .i64 x.K, .int .i64 x.N, .string x.S, .slice a3 x.E.length c3, .slice a4 x.C.length c4]] w fun r w' => r = .returned (.string R) ∧ Below w.heap.size w w' := by
  rw [txtX_eq, hk, body2] at hR0
  rw [hk]
  have HH : Hid (Hand d w pat deep x a3 c3 a4) := h
  have hfit := h.good.2.1.1
  rw [hk] at hfit
  have hf := (fit2 _ _ _ _).1 hfit
  have hsz := fit_size hfit
  have hlen := h.lens
  obtain ⟨len, hl⟩ : ∃ l, x.E.length = l := ⟨_, rfl⟩
  obtain ⟨l4, hl4⟩ : ∃ l, x.C.length = l := ⟨_, rfl⟩
  obtain ⟨N, hN⟩ : ∃ N, x.N = N := ⟨_, rfl⟩
  obtain ⟨S, hS⟩ : ∃ S, x.S = S := ⟨_, rfl⟩
  have HL : Hid (x.E.length = len ∧ x.C.length = l4) := ⟨hl, hl4⟩
  have HT : Hid (TxC d) := H
  rw [hN, hS, hl, hl4] at hf
  rw [hl, hl4] at hlen
  rw [hS] at hsz
  try rw [hS] at hR0
  try rw [hN] at hR0
  rw [hN, hS, hl, hl4]
  obtain ⟨W, hW⟩ : ∃ W, W = w.alloc (.cells #[.int .i64 2, .int .i64 N, .string S, .slice a3 len c3, .slice a4 l4 c4] 39) := ⟨_, rfl⟩
  have hA : Below w.heap.size w W := by rw [hW]; exact (Below.refl _ _).alloc (Nat.le_refl _) _
  have hWz : w.heap.size < W.heap.size := by rw [hW]; simp
  have hB1 : W.heap[w.heap.size]? = some (.cells #[.int .i64 2, .int .i64 N, .string S, .slice a3 len c3, .slice a4 l4 c4] 39 (0, 0)) := by rw [hW]; exact heap_alloc_new w _
  have HHW : Hid (Hand d W pat deep x a3 c3 a4) := h.later hA
  have HW : Hid (W = _) := hW
  have HR : Hid (ba S.data.toList = S) := ba_list S
  rw [hW] at hA
  clear hW
  have HRR : Hid (R = _) := hR0.trans HR.out
  clear hl hl4 hN hS H h hfit hR0 HR
  try clear hf
  go_enter Tryz.func11, Tryz.ntmps11
  go_wp2_with fail
  go_ret
  exact ⟨by rw [HRR.out]; rfl, hA⟩

set_option maxRecDepth 100000 in
set_option maxHeartbeats 2000000 in
theorem l5Text_3 (d : Nat) (H : TxC d) (pat : Bool) (deep : Int) (x : Ex (d + 1)) (a3 : Option Addr) (c3 : Nat) (a4 : Option Addr) (c4 : Nat) (w : World) (h : Hand d w pat deep x a3 c3 a4) (hk : x.K = 3) (R : ByteArray) (hR0 : R = ba (txtX (d + 1) x)) :
    Calls Tryz.prog 11 #[.agg #[.int .i64 x.K, .int .i64 x.N, .string x.S, .slice a3 x.E.length c3, .slice a4 x.C.length c4]] w fun r w' => r = .returned (.string R) ∧ Below w.heap.size w w' := by
  rw [txtX_eq, hk, body3] at hR0
  rw [hk]
  have HH : Hid (Hand d w pat deep x a3 c3 a4) := h
  have hfit := h.good.2.1.1
  rw [hk] at hfit
  have hf := (fit3 _ _ _ _).1 hfit
  have hsz := fit_size hfit
  have hlen := h.lens
  obtain ⟨len, hl⟩ : ∃ l, x.E.length = l := ⟨_, rfl⟩
  obtain ⟨l4, hl4⟩ : ∃ l, x.C.length = l := ⟨_, rfl⟩
  obtain ⟨N, hN⟩ : ∃ N, x.N = N := ⟨_, rfl⟩
  obtain ⟨S, hS⟩ : ∃ S, x.S = S := ⟨_, rfl⟩
  have HL : Hid (x.E.length = len ∧ x.C.length = l4) := ⟨hl, hl4⟩
  have HT : Hid (TxC d) := H
  rw [hN, hS, hl, hl4] at hf
  rw [hl, hl4] at hlen
  rw [hS] at hsz
  try rw [hS] at hR0
  try rw [hN] at hR0
  rw [hN, hS, hl, hl4]
  obtain ⟨W, hW⟩ : ∃ W, W = w.alloc (.cells #[.int .i64 3, .int .i64 N, .string S, .slice a3 len c3, .slice a4 l4 c4] 39) := ⟨_, rfl⟩
  have hA : Below w.heap.size w W := by rw [hW]; exact (Below.refl _ _).alloc (Nat.le_refl _) _
  have hWz : w.heap.size < W.heap.size := by rw [hW]; simp
  have hB1 : W.heap[w.heap.size]? = some (.cells #[.int .i64 3, .int .i64 N, .string S, .slice a3 len c3, .slice a4 l4 c4] 39 (0, 0)) := by rw [hW]; exact heap_alloc_new w _
  have HHW : Hid (Hand d W pat deep x a3 c3 a4) := h.later hA
  have HW : Hid (W = _) := hW
  have HR : Hid (ba S.data.toList = S) := ba_list S
  rw [hW] at hA
  clear hW
  have HRR : Hid (R = _) := hR0.trans HR.out
  clear hl hl4 hN hS H h hfit hR0 HR
  try clear hf
  go_enter Tryz.func11, Tryz.ntmps11
  go_wp2_with fail
  go_ret
  exact ⟨by rw [HRR.out]; rfl, hA⟩

set_option maxRecDepth 100000 in
set_option maxHeartbeats 2000000 in
theorem l5Text_4 (d : Nat) (H : TxC d) (pat : Bool) (deep : Int) (x : Ex (d + 1)) (a3 : Option Addr) (c3 : Nat) (a4 : Option Addr) (c4 : Nat) (w : World) (h : Hand d w pat deep x a3 c3 a4) (hk : x.K = 4) (R : ByteArray) (hR0 : R = ba (txtX (d + 1) x)) :
    Calls Tryz.prog 11 #[.agg #[.int .i64 x.K, .int .i64 x.N, .string x.S, .slice a3 x.E.length c3, .slice a4 x.C.length c4]] w fun r w' => r = .returned (.string R) ∧ Below w.heap.size w w' := by
  rw [txtX_eq, hk, body4] at hR0
  rw [hk]
  have HH : Hid (Hand d w pat deep x a3 c3 a4) := h
  have hfit := h.good.2.1.1
  rw [hk] at hfit
  have hf := (fit4 _ _ _ _).1 hfit
  have hsz := fit_size hfit
  have hlen := h.lens
  obtain ⟨len, hl⟩ : ∃ l, x.E.length = l := ⟨_, rfl⟩
  obtain ⟨l4, hl4⟩ : ∃ l, x.C.length = l := ⟨_, rfl⟩
  obtain ⟨N, hN⟩ : ∃ N, x.N = N := ⟨_, rfl⟩
  obtain ⟨S, hS⟩ : ∃ S, x.S = S := ⟨_, rfl⟩
  have HL : Hid (x.E.length = len ∧ x.C.length = l4) := ⟨hl, hl4⟩
  have HT : Hid (TxC d) := H
  rw [hN, hS, hl, hl4] at hf
  rw [hl, hl4] at hlen
  rw [hS] at hsz
  try rw [hS] at hR0
  try rw [hN] at hR0
  rw [hN, hS, hl, hl4]
  obtain ⟨W, hW⟩ : ∃ W, W = w.alloc (.cells #[.int .i64 4, .int .i64 N, .string S, .slice a3 len c3, .slice a4 l4 c4] 39) := ⟨_, rfl⟩
  have hA : Below w.heap.size w W := by rw [hW]; exact (Below.refl _ _).alloc (Nat.le_refl _) _
  have hWz : w.heap.size < W.heap.size := by rw [hW]; simp
  have hB1 : W.heap[w.heap.size]? = some (.cells #[.int .i64 4, .int .i64 N, .string S, .slice a3 len c3, .slice a4 l4 c4] 39 (0, 0)) := by rw [hW]; exact heap_alloc_new w _
  have HHW : Hid (Hand d W pat deep x a3 c3 a4) := h.later hA
  have HW : Hid (W = _) := hW
  have hC := l5List_of d H pat (deep - 1) x.E a3 c3 W HHW.out.el h.good.2.2.1 h.sumE (by omega)
  rw [hl] at hC
  have hsum := sumLen_le d pat (deep - 1) x.E h.good.2.2.1
  have hJ := joinS_lim cmm rfl (x.E.map (txtX d)) x.E.length
  rw [List.take_of_length_le (by rw [List.length_map]; exact Nat.le_refl _)] at hJ
  have hse := h.sumE
  have hDs : (ba (joinS cmm (x.E.map (txtX d)))).size ≤ 32000 := by rw [ba_size]; omega
  have HR : Hid (ba (([123] ++ joinS cmm (x.E.map (txtX d))) ++ [125]) = (⟨#[123]⟩ ++ ba (joinS cmm (x.E.map (txtX d)))) ++ ⟨#[125]⟩) := by
    show _ = (ba [123] ++ _) ++ ba [125]
    rw [ba_app, ba_app]
  obtain ⟨D, hD⟩ : ∃ D, ba (joinS cmm (x.E.map (txtX d))) = D := ⟨_, rfl⟩
  rw [hD] at hC hDs HR
  rw [hW] at hC
  clear hW hD hsum hJ hse
  have HRR : Hid (R = _) := hR0.trans HR.out
  clear hl hl4 hN hS H h hfit hR0 HR
  try clear hf
  go_enter Tryz.func11, Tryz.ntmps11
  go_wp2_with fail
  refine hC.mono ?_
  clear hC
  rintro e w1 ⟨rfl, hB⟩
  rw [← HW.out] at hB
  have hb : Below w.heap.size w w1 := hA.trans (hB.mono hA.size)
  clear hB hB1
  go_wp2_with fail
  go_ret
  exact ⟨by rw [HRR.out]; rfl, hb⟩

set_option maxRecDepth 100000 in
set_option maxHeartbeats 2000000 in
theorem l5Text_5 (d : Nat) (H : TxC d) (pat : Bool) (deep : Int) (x : Ex (d + 1)) (a3 : Option Addr) (c3 : Nat) (a4 : Option Addr) (c4 : Nat) (w : World) (h : Hand d w pat deep x a3 c3 a4) (hk : x.K = 5) (R : ByteArray) (hR0 : R = ba (txtX (d + 1) x)) :
    Calls Tryz.prog 11 #[.agg #[.int .i64 x.K, .int .i64 x.N, .string x.S, .slice a3 x.E.length c3, .slice a4 x.C.length c4]] w fun r w' => r = .returned (.string R) ∧ Below w.heap.size w w' := by
  rw [txtX_eq, hk, body5] at hR0
  rw [hk]
  have HH : Hid (Hand d w pat deep x a3 c3 a4) := h
  have hfit := h.good.2.1.1
  rw [hk] at hfit
  have hf := (fit5 _ _ _ _).1 hfit
  have hsz := fit_size hfit
  have hlen := h.lens
  obtain ⟨len, hl⟩ : ∃ l, x.E.length = l := ⟨_, rfl⟩
  obtain ⟨l4, hl4⟩ : ∃ l, x.C.length = l := ⟨_, rfl⟩
  obtain ⟨N, hN⟩ : ∃ N, x.N = N := ⟨_, rfl⟩
  obtain ⟨S, hS⟩ : ∃ S, x.S = S := ⟨_, rfl⟩
  have HL : Hid (x.E.length = len ∧ x.C.length = l4) := ⟨hl, hl4⟩
  have HT : Hid (TxC d) := H
  rw [hN, hS, hl, hl4] at hf
  rw [hl, hl4] at hlen
  rw [hS] at hsz
  try rw [hS] at hR0
  try rw [hN] at hR0
  rw [hN, hS, hl, hl4]
  obtain ⟨W, hW⟩ : ∃ W, W = w.alloc (.cells #[.int .i64 5, .int .i64 N, .string S, .slice a3 len c3, .slice a4 l4 c4] 39) := ⟨_, rfl⟩
  have hA : Below w.heap.size w W := by rw [hW]; exact (Below.refl _ _).alloc (Nat.le_refl _) _
  have hWz : w.heap.size < W.heap.size := by rw [hW]; simp
  have hB1 : W.heap[w.heap.size]? = some (.cells #[.int .i64 5, .int .i64 N, .string S, .slice a3 len c3, .slice a4 l4 c4] 39 (0, 0)) := by rw [hW]; exact heap_alloc_new w _
  have HHW : Hid (Hand d W pat deep x a3 c3 a4) := h.later hA
  have HW : Hid (W = _) := hW
  have hC := l5List_of d H pat (deep - 1) x.E a3 c3 W HHW.out.el h.good.2.2.1 h.sumE (by omega)
  rw [hl] at hC
  have hsum := sumLen_le d pat (deep - 1) x.E h.good.2.2.1
  have hJ := joinS_lim cmm rfl (x.E.map (txtX d)) x.E.length
  rw [List.take_of_length_le (by rw [List.length_map]; exact Nat.le_refl _)] at hJ
  have hse := h.sumE
  have hDs : (ba (joinS cmm (x.E.map (txtX d)))).size ≤ 32000 := by rw [ba_size]; omega
  have HR : Hid (ba (([91] ++ joinS cmm (x.E.map (txtX d))) ++ [93]) = (⟨#[91]⟩ ++ ba (joinS cmm (x.E.map (txtX d)))) ++ ⟨#[93]⟩) := by
    show _ = (ba [91] ++ _) ++ ba [93]
    rw [ba_app, ba_app]
  obtain ⟨D, hD⟩ : ∃ D, ba (joinS cmm (x.E.map (txtX d))) = D := ⟨_, rfl⟩
  rw [hD] at hC hDs HR
  rw [hW] at hC
  clear hW hD hsum hJ hse
  have HRR : Hid (R = _) := hR0.trans HR.out
  clear hl hl4 hN hS H h hfit hR0 HR
  try clear hf
  go_enter Tryz.func11, Tryz.ntmps11
  go_wp2_with fail
  refine hC.mono ?_
  clear hC
  rintro e w1 ⟨rfl, hB⟩
  rw [← HW.out] at hB
  have hb : Below w.heap.size w w1 := hA.trans (hB.mono hA.size)
  clear hB hB1
  go_wp2_with fail
  go_ret
  exact ⟨by rw [HRR.out]; rfl, hb⟩

set_option maxRecDepth 100000 in
set_option maxHeartbeats 2000000 in
theorem l5Text_6 (d : Nat) (H : TxC d) (pat : Bool) (deep : Int) (x : Ex (d + 1)) (a3 : Option Addr) (c3 : Nat) (a4 : Option Addr) (c4 : Nat) (w : World) (h : Hand d w pat deep x a3 c3 a4) (hk : x.K = 6) (R : ByteArray) (hR0 : R = ba (txtX (d + 1) x)) :
    Calls Tryz.prog 11 #[.agg #[.int .i64 x.K, .int .i64 x.N, .string x.S, .slice a3 x.E.length c3, .slice a4 x.C.length c4]] w fun r w' => r = .returned (.string R) ∧ Below w.heap.size w w' := by
  rw [txtX_eq, hk, body6] at hR0
  rw [hk]
  have HH : Hid (Hand d w pat deep x a3 c3 a4) := h
  have hfit := h.good.2.1.1
  rw [hk] at hfit
  have hf := (fit6 _ _ _ _).1 hfit
  have hsz := fit_size hfit
  have hlen := h.lens
  obtain ⟨len, hl⟩ : ∃ l, x.E.length = l := ⟨_, rfl⟩
  obtain ⟨l4, hl4⟩ : ∃ l, x.C.length = l := ⟨_, rfl⟩
  obtain ⟨N, hN⟩ : ∃ N, x.N = N := ⟨_, rfl⟩
  obtain ⟨S, hS⟩ : ∃ S, x.S = S := ⟨_, rfl⟩
  have HL : Hid (x.E.length = len ∧ x.C.length = l4) := ⟨hl, hl4⟩
  have HT : Hid (TxC d) := H
  rw [hN, hS, hl, hl4] at hf
  rw [hl, hl4] at hlen
  rw [hS] at hsz
  try rw [hS] at hR0
  try rw [hN] at hR0
  rw [hN, hS, hl, hl4]
  obtain ⟨W, hW⟩ : ∃ W, W = w.alloc (.cells #[.int .i64 6, .int .i64 N, .string S, .slice a3 len c3, .slice a4 l4 c4] 39) := ⟨_, rfl⟩
  have hA : Below w.heap.size w W := by rw [hW]; exact (Below.refl _ _).alloc (Nat.le_refl _) _
  have hWz : w.heap.size < W.heap.size := by rw [hW]; simp
  have hB1 : W.heap[w.heap.size]? = some (.cells #[.int .i64 6, .int .i64 N, .string S, .slice a3 len c3, .slice a4 l4 c4] 39 (0, 0)) := by rw [hW]; exact heap_alloc_new w _
  have HHW : Hid (Hand d W pat deep x a3 c3 a4) := h.later hA
  have HW : Hid (W = _) := hW
  obtain ⟨t, ht⟩ : ∃ t, x.E[len - 1]? = some t := ⟨_, List.getElem?_eq_getElem (by omega)⟩
  obtain ⟨tb, tof, vs, et, hvl, tcell, tre⟩ := HHW.out.el (len - 1) t ht
  obtain ⟨t0, t1, t2, ta3, tl3, tc3, ta4, tl4, tc4, rfl⟩ := ExC.shape _ _ _ _ tre
  have tm := List.mem_of_getElem? ht
  have tp := h.parts tm
  subst et
  have hC1 : Hid (∀ V : World, Below W.heap.size W V → Calls Tryz.prog 11 #[.agg #[.int .i64 t0, .int .i64 t1, .string t2, .slice ta3 tl3 tc3, .slice ta4 tl4 tc4]] V fun r w' => r = .returned (.string (ba (txtX d t))) ∧ Below V.heap.size V w') := fun V hV => H _ t pat (deep - 1) V (ExC.lasts d _ _ _ _ tre hV) tp.1 tp.2.1
  have hD1s : (ba (txtX d t)).size ≤ 32000 := tp.2.2
  have hgt : ∀ y ∈ x.E.take (len - 1), GoodX d pat (deep - 1) y := fun y hy => h.good.2.2.1 y (List.mem_of_mem_take hy)
  have hsm : ((x.E.take (len - 1)).map (cntX d)).sum ≤ 1000 := by
    have h8 := sumP_le (cntX d) x.E (len - 1)
    have h9 := h.sumE
    unfold sumP at h8
    omega
  have hC2 : Hid (∀ V : World, Below W.heap.size W V → Calls Tryz.prog 22 #[.slice (some ⟨tb, tof, none⟩) (len - 1) c3] V fun r w' => r = .returned (.string (ba (joinS cmm ((x.E.take (len - 1)).map (txtX d))))) ∧ Below V.heap.size V w') := fun V hV => by
    have h7 := l5List_of d H pat (deep - 1) (x.E.take (len - 1)) (some ⟨tb, tof, none⟩) c3 V ((HHW.out.el.later hV).take _) hgt hsm (by rw [List.length_take]; omega)
    rw [List.length_take, hl, show min (len - 1) len = len - 1 by omega] at h7
    exact h7
  have hJ : (ba (joinS cmm ((x.E.take (len - 1)).map (txtX d)))).size ≤ 32000 := by
    have h7 := joinS_len cmm ((x.E.take (len - 1)).map (txtX d))
    have h8 := sumLen_le d pat (deep - 1) _ hgt
    have h9 : (((x.E.take (len - 1)).map (txtX d)).map fun x => cmm.length + x.length).sum = sumLen ((x.E.take (len - 1)).map (txtX d)) := rfl
    rw [ba_size]
    omega
  have HR : Hid (ba ((([91] ++ joinS cmm ((x.E.map (txtX d)).take ((x.E.map (txtX d)).length - 1))) ++ [32, 124, 32]) ++ (joinS cmm ((x.E.map (txtX d)).drop ((x.E.map (txtX d)).length - 1)) ++ [93])) = (((⟨#[91]⟩ ++ ba (joinS cmm ((x.E.take (len - 1)).map (txtX d)))) ++ ⟨#[32, 124, 32]⟩) ++ ba (txtX d t)) ++ ⟨#[93]⟩) := by
    show _ = (((ba [91] ++ _) ++ ba [32, 124, 32]) ++ _) ++ ba [93]
    rw [ba_app, ba_app, ba_app, ba_app, List.length_map, hl, ← List.map_take, ← List.map_drop]
    have hd : x.E.drop (len - 1) = [t] := by
      rw [List.drop_eq_getElem_cons (by omega), (List.getElem?_eq_some_iff.1 ht).2, List.drop_eq_nil_of_le (by omega)]
    rw [hd, List.map_cons, List.map_nil, joinS_one]
    simp only [List.append_assoc]
  obtain ⟨D1, hD1⟩ : ∃ D, ba (txtX d t) = D := ⟨_, rfl⟩
  obtain ⟨D2, hD2⟩ : ∃ D, ba (joinS cmm ((x.E.take (len - 1)).map (txtX d))) = D := ⟨_, rfl⟩
  rw [hD1] at hC1 HR hD1s
  rw [hD2] at hC2 HR hJ
  have tf0 : W.cell? ⟨tb, tof + (len - 1) * 5, none⟩ = some _ := tcell 0 _ rfl
  have tf1 : W.cell? ⟨tb, tof + (len - 1) * 5 + 1, none⟩ = some _ := tcell 1 _ rfl
  have tf2 : W.cell? ⟨tb, tof + (len - 1) * 5 + 2, none⟩ = some _ := tcell 2 _ rfl
  have tf3 : W.cell? ⟨tb, tof + (len - 1) * 5 + 3, none⟩ = some _ := tcell 3 _ rfl
  have tf4 : W.cell? ⟨tb, tof + (len - 1) * 5 + 4, none⟩ = some _ := tcell 4 _ rfl
  have b3 : W.cell? ⟨w.heap.size, 3, none⟩ = some (.slice (some ⟨tb, tof, none⟩) len c3) := by rw [cell_of_row W _ 3 _ _ _ hB1]; rfl
  have hcap : len ≤ c3 := by have := h.cap; omega
  clear tcell tre hvl tm tp hgt hsm hD1 hD2 ht
  obtain ⟨n1, hn1⟩ : ∃ n, len = n + 1 := ⟨len - 1, by omega⟩
  subst hn1
  simp only [Nat.add_sub_cancel] at tf0 tf1 tf2 tf3 tf4 hC2
  have HRR : Hid (R = _) := hR0.trans HR.out
  clear hl hl4 hN hS H h hfit hR0 HR
  try clear hf
  go_enter Tryz.func11, Tryz.ntmps11
  go_wp2_with fail
  rw [← hW]
  clear hW HW hB1
  have hne := After.some W
  have tg0 := After.cell tf0
  have tg1 := After.cell tf1
  have tg2 := After.cell tf2
  have tg3 := After.cell tf3
  have tg4 := After.cell tf4
  have q3 := After.cell b3
  refine wp_region_after (by kernel_rfl) (by kernel_rfl) ?_
  repeat (go_big_quiet_step (first | (go_at_call 22; exact calls_after (hC2.out _ (After.bel _))) | (go_at_call 11; with_reducible exact calls_after (hC1.out _ (After.bel _))) | (go_at_call 11; with_reducible exact calls_after (hC2.out _ (After.bel _)))))
  refine wpQuiet_nil ?_
  rintro _ ⟨nq, rfl⟩
  have hb : Below w.heap.size w nq.now := hA.trans (nq.bel.mono hA.size)
  go_wp2_with fail
  go_ret
  exact ⟨by rw [HRR.out]; rfl, hb⟩

set_option maxRecDepth 100000 in
set_option maxHeartbeats 2000000 in
theorem l5Text_7 (d : Nat) (H : TxC d) (pat : Bool) (deep : Int) (x : Ex (d + 1)) (a3 : Option Addr) (c3 : Nat) (a4 : Option Addr) (c4 : Nat) (w : World) (h : Hand d w pat deep x a3 c3 a4) (hk : x.K = 7) (R : ByteArray) (hR0 : R = ba (txtX (d + 1) x)) :
    Calls Tryz.prog 11 #[.agg #[.int .i64 x.K, .int .i64 x.N, .string x.S, .slice a3 x.E.length c3, .slice a4 x.C.length c4]] w fun r w' => r = .returned (.string R) ∧ Below w.heap.size w w' := by
  rw [txtX_eq, hk, body7] at hR0
  rw [hk]
  have HH : Hid (Hand d w pat deep x a3 c3 a4) := h
  have hfit := h.good.2.1.1
  rw [hk] at hfit
  have hf := (fit7 _ _ _ _).1 hfit
  have hsz := fit_size hfit
  have hlen := h.lens
  obtain ⟨len, hl⟩ : ∃ l, x.E.length = l := ⟨_, rfl⟩
  obtain ⟨l4, hl4⟩ : ∃ l, x.C.length = l := ⟨_, rfl⟩
  obtain ⟨N, hN⟩ : ∃ N, x.N = N := ⟨_, rfl⟩
  obtain ⟨S, hS⟩ : ∃ S, x.S = S := ⟨_, rfl⟩
  have HL : Hid (x.E.length = len ∧ x.C.length = l4) := ⟨hl, hl4⟩
  have HT : Hid (TxC d) := H
  rw [hN, hS, hl, hl4] at hf
  rw [hl, hl4] at hlen
  rw [hS] at hsz
  try rw [hS] at hR0
  try rw [hN] at hR0
  rw [hN, hS, hl, hl4]
  obtain ⟨W, hW⟩ : ∃ W, W = w.alloc (.cells #[.int .i64 7, .int .i64 N, .string S, .slice a3 len c3, .slice a4 l4 c4] 39) := ⟨_, rfl⟩
  have hA : Below w.heap.size w W := by rw [hW]; exact (Below.refl _ _).alloc (Nat.le_refl _) _
  have hWz : w.heap.size < W.heap.size := by rw [hW]; simp
  have hB1 : W.heap[w.heap.size]? = some (.cells #[.int .i64 7, .int .i64 N, .string S, .slice a3 len c3, .slice a4 l4 c4] 39 (0, 0)) := by rw [hW]; exact heap_alloc_new w _
  have HHW : Hid (Hand d W pat deep x a3 c3 a4) := h.later hA
  have HW : Hid (W = _) := hW
  obtain ⟨t, ht⟩ : ∃ t, x.E[0]? = some t := ⟨_, List.getElem?_eq_getElem (by omega)⟩
  obtain ⟨tb, tof, vs, et, hvl, tcell, tre⟩ := HHW.out.el (0) t ht
  obtain ⟨t0, t1, t2, ta3, tl3, tc3, ta4, tl4, tc4, rfl⟩ := ExC.shape _ _ _ _ tre
  have tm := List.mem_of_getElem? ht
  have tp := h.parts tm
  obtain ⟨u, hu⟩ : ∃ t, x.E[1]? = some t := ⟨_, List.getElem?_eq_getElem (by omega)⟩
  obtain ⟨ub, uof, vs, eu, hvl, ucell, ure⟩ := HHW.out.el (1) u hu
  obtain ⟨u0, u1, u2, ua3, ul3, uc3, ua4, ul4, uc4, rfl⟩ := ExC.shape _ _ _ _ ure
  have um := List.mem_of_getElem? hu
  have up := h.parts um
  subst et
  simp only [Option.some.injEq, Addr.mk.injEq, and_true] at eu
  obtain ⟨rfl, rfl⟩ := eu
  have hC1 : Hid (∀ V : World, Below W.heap.size W V → Calls Tryz.prog 11 #[.agg #[.int .i64 t0, .int .i64 t1, .string t2, .slice ta3 tl3 tc3, .slice ta4 tl4 tc4]] V fun r w' => r = .returned (.string (ba (txtX d t))) ∧ Below V.heap.size V w') := fun V hV => H _ t pat (deep - 1) V (ExC.lasts d _ _ _ _ tre hV) tp.1 tp.2.1
  have hD1s : (ba (txtX d t)).size ≤ 32000 := tp.2.2
  have hC2 : Hid (∀ V : World, Below W.heap.size W V → Calls Tryz.prog 11 #[.agg #[.int .i64 u0, .int .i64 u1, .string u2, .slice ua3 ul3 uc3, .slice ua4 ul4 uc4]] V fun r w' => r = .returned (.string (ba (txtX d u))) ∧ Below V.heap.size V w') := fun V hV => H _ u pat (deep - 1) V (ExC.lasts d _ _ _ _ ure hV) up.1 up.2.1
  have hD2s : (ba (txtX d u)).size ≤ 32000 := up.2.2
  have HR : Hid (ba ((([40] ++ joinS cmm ((x.E.map (txtX d)).take 1)) ++ (([32] ++ S.data.toList) ++ [32])) ++ (joinS cmm ((x.E.map (txtX d)).drop 1) ++ [41])) = (((((⟨#[40]⟩ ++ ba (txtX d t)) ++ ⟨#[32]⟩) ++ S) ++ ⟨#[32]⟩) ++ ba (txtX d u)) ++ ⟨#[41]⟩) := by
    show _ = (((((ba [40] ++ _) ++ ba [32]) ++ ba S.data.toList) ++ ba [32]) ++ _) ++ ba [41]
    rw [ba_app, ba_app, ba_app, ba_app, ba_app, ba_app]
    have hd : x.E = [t, u] := by
      apply List.ext_getElem?
      intro i
      rcases (by omega : i = 0 ∨ i = 1 ∨ 2 ≤ i) with rfl | rfl | hi
      · exact ht
      · exact hu
      · rw [List.getElem?_eq_none (by omega), List.getElem?_eq_none (by simpa using hi)]
    rw [hd]
    show ba ((([40] ++ txtX d t) ++ (([32] ++ S.data.toList) ++ [32])) ++ (txtX d u ++ [41])) = _
    simp only [List.append_assoc]
  obtain ⟨D1, hD1⟩ : ∃ D, ba (txtX d t) = D := ⟨_, rfl⟩
  obtain ⟨D2, hD2⟩ : ∃ D, ba (txtX d u) = D := ⟨_, rfl⟩
  rw [hD1] at hC1 HR hD1s
  rw [hD2] at hC2 HR hD2s
  have tf0 : W.cell? ⟨tb, tof + (0) * 5, none⟩ = some _ := tcell 0 _ rfl
  have tf1 : W.cell? ⟨tb, tof + (0) * 5 + 1, none⟩ = some _ := tcell 1 _ rfl
  have tf2 : W.cell? ⟨tb, tof + (0) * 5 + 2, none⟩ = some _ := tcell 2 _ rfl
  have tf3 : W.cell? ⟨tb, tof + (0) * 5 + 3, none⟩ = some _ := tcell 3 _ rfl
  have tf4 : W.cell? ⟨tb, tof + (0) * 5 + 4, none⟩ = some _ := tcell 4 _ rfl
  have uf0 : W.cell? ⟨tb, tof + (1) * 5, none⟩ = some _ := ucell 0 _ rfl
  have uf1 : W.cell? ⟨tb, tof + (1) * 5 + 1, none⟩ = some _ := ucell 1 _ rfl
  have uf2 : W.cell? ⟨tb, tof + (1) * 5 + 2, none⟩ = some _ := ucell 2 _ rfl
  have uf3 : W.cell? ⟨tb, tof + (1) * 5 + 3, none⟩ = some _ := ucell 3 _ rfl
  have uf4 : W.cell? ⟨tb, tof + (1) * 5 + 4, none⟩ = some _ := ucell 4 _ rfl
  have b3 : W.cell? ⟨w.heap.size, 3, none⟩ = some (.slice (some ⟨tb, tof, none⟩) len c3) := by rw [cell_of_row W _ 3 _ _ _ hB1]; rfl
  have b2 : W.cell? ⟨w.heap.size, 2, none⟩ = some (.string S) := by rw [cell_of_row W _ 2 _ _ _ hB1]; rfl
  obtain ⟨-, -, -, rfl⟩ := hf
  clear tcell tre hvl tm tp ucell ure um up hD1 hD2 ht hu
  simp only [Nat.zero_mul, Nat.one_mul, Nat.add_zero] at tf0 tf1 tf2 tf3 tf4 uf0 uf1 uf2 uf3 uf4
  have HRR : Hid (R = _) := hR0.trans HR.out
  clear hl hl4 hN hS H h hfit hR0 HR
  try clear hf
  go_enter Tryz.func11, Tryz.ntmps11
  go_wp2_with fail
  rw [← hW]
  clear hW HW hB1
  have hne := After.some W
  have tg0 := After.cell tf0
  have tg1 := After.cell tf1
  have tg2 := After.cell tf2
  have tg3 := After.cell tf3
  have tg4 := After.cell tf4
  have ug0 := After.cell uf0
  have ug1 := After.cell uf1
  have ug2 := After.cell uf2
  have ug3 := After.cell uf3
  have ug4 := After.cell uf4
  have q3 := After.cell b3
  have q2 := After.cell b2
  refine wp_region_after (by kernel_rfl) (by kernel_rfl) ?_
  repeat (go_big_quiet_step (first | (go_at_call 22; exact calls_after (hC2.out _ (After.bel _))) | (go_at_call 11; with_reducible exact calls_after (hC1.out _ (After.bel _))) | (go_at_call 11; with_reducible exact calls_after (hC2.out _ (After.bel _)))))
  refine wpQuiet_nil ?_
  rintro _ ⟨nq, rfl⟩
  have hb : Below w.heap.size w nq.now := hA.trans (nq.bel.mono hA.size)
  go_wp2_with fail
  go_ret
  exact ⟨by rw [HRR.out]; rfl, hb⟩

set_option maxRecDepth 100000 in
set_option maxHeartbeats 2000000 in
theorem l5Text_8 (d : Nat) (H : TxC d) (pat : Bool) (deep : Int) (x : Ex (d + 1)) (a3 : Option Addr) (c3 : Nat) (a4 : Option Addr) (c4 : Nat) (w : World) (h : Hand d w pat deep x a3 c3 a4) (hk : x.K = 8) (R : ByteArray) (hR0 : R = ba (txtX (d + 1) x)) :
    Calls Tryz.prog 11 #[.agg #[.int .i64 x.K, .int .i64 x.N, .string x.S, .slice a3 x.E.length c3, .slice a4 x.C.length c4]] w fun r w' => r = .returned (.string R) ∧ Below w.heap.size w w' := by
  rw [txtX_eq, hk, body8] at hR0
  rw [hk]
  have HH : Hid (Hand d w pat deep x a3 c3 a4) := h
  have hfit := h.good.2.1.1
  rw [hk] at hfit
  have hf := (fit8 _ _ _ _).1 hfit
  have hsz := fit_size hfit
  have hlen := h.lens
  obtain ⟨len, hl⟩ : ∃ l, x.E.length = l := ⟨_, rfl⟩
  obtain ⟨l4, hl4⟩ : ∃ l, x.C.length = l := ⟨_, rfl⟩
  obtain ⟨N, hN⟩ : ∃ N, x.N = N := ⟨_, rfl⟩
  obtain ⟨S, hS⟩ : ∃ S, x.S = S := ⟨_, rfl⟩
  have HL : Hid (x.E.length = len ∧ x.C.length = l4) := ⟨hl, hl4⟩
  have HT : Hid (TxC d) := H
  rw [hN, hS, hl, hl4] at hf
  rw [hl, hl4] at hlen
  rw [hS] at hsz
  try rw [hS] at hR0
  try rw [hN] at hR0
  rw [hN, hS, hl, hl4]
  obtain ⟨W, hW⟩ : ∃ W, W = w.alloc (.cells #[.int .i64 8, .int .i64 N, .string S, .slice a3 len c3, .slice a4 l4 c4] 39) := ⟨_, rfl⟩
  have hA : Below w.heap.size w W := by rw [hW]; exact (Below.refl _ _).alloc (Nat.le_refl _) _
  have hWz : w.heap.size < W.heap.size := by rw [hW]; simp
  have hB1 : W.heap[w.heap.size]? = some (.cells #[.int .i64 8, .int .i64 N, .string S, .slice a3 len c3, .slice a4 l4 c4] 39 (0, 0)) := by rw [hW]; exact heap_alloc_new w _
  have HHW : Hid (Hand d W pat deep x a3 c3 a4) := h.later hA
  have HW : Hid (W = _) := hW
  have hC := l5List_of d H pat (deep - 1) x.E a3 c3 W HHW.out.el h.good.2.2.1 h.sumE (by omega)
  rw [hl] at hC
  have hsum := sumLen_le d pat (deep - 1) x.E h.good.2.2.1
  have hJ := joinS_lim cmm rfl (x.E.map (txtX d)) x.E.length
  rw [List.take_of_length_le (by rw [List.length_map]; exact Nat.le_refl _)] at hJ
  have hse := h.sumE
  have hDs : (ba (joinS cmm (x.E.map (txtX d)))).size ≤ 32000 := by rw [ba_size]; omega
  have hC2 : Hid (∀ V : World, Below W.heap.size W V → Calls Tryz.prog 22 #[.slice a3 len c3] V fun r w' => r = .returned (.string (ba (joinS cmm (x.E.map (txtX d))))) ∧ Below V.heap.size V w') := fun V hV => by
    have h7 := l5List_of d H pat (deep - 1) x.E a3 c3 V (HHW.out.el.later hV) h.good.2.2.1 h.sumE (by omega)
    rw [hl] at h7
    exact h7
  have hC1 : Hid (∀ V : World, Below W.heap.size W V → True) := fun _ _ => trivial
  have HR : Hid (ba (((S.data.toList ++ [40]) ++ joinS cmm (x.E.map (txtX d))) ++ [41]) = ((S ++ ⟨#[40]⟩) ++ ba (joinS cmm (x.E.map (txtX d)))) ++ ⟨#[41]⟩) := by
    show _ = ((ba S.data.toList ++ ba [40]) ++ _) ++ ba [41]
    rw [ba_app, ba_app, ba_app]
  obtain ⟨D, hD⟩ : ∃ D, ba (joinS cmm (x.E.map (txtX d))) = D := ⟨_, rfl⟩
  rw [hD] at hC2 hDs HR
  have b3 : W.cell? ⟨w.heap.size, 3, none⟩ = some (.slice a3 len c3) := by rw [cell_of_row W _ 3 _ _ _ hB1]; rfl
  have b2 : W.cell? ⟨w.heap.size, 2, none⟩ = some (.string S) := by rw [cell_of_row W _ 2 _ _ _ hB1]; rfl
  clear hC hD hsum hJ hse
  have HRR : Hid (R = _) := hR0.trans HR.out
  clear hl hl4 hN hS H h hfit hR0 HR
  try clear hf
  go_enter Tryz.func11, Tryz.ntmps11
  go_wp2_with fail
  rw [← hW]
  clear hW HW hB1
  have hne := After.some W
  have q3 := After.cell b3
  have q2 := After.cell b2
  refine wp_region_after (by kernel_rfl) (by kernel_rfl) ?_
  repeat (go_big_quiet_step (first | (go_at_call 22; exact calls_after (hC2.out _ (After.bel _)))))
  refine wpQuiet_nil ?_
  rintro _ ⟨nq, rfl⟩
  have hb : Below w.heap.size w nq.now := hA.trans (nq.bel.mono hA.size)
  go_wp2_with fail
  go_ret
  exact ⟨by rw [HRR.out]; rfl, hb⟩

set_option maxRecDepth 100000 in
set_option maxHeartbeats 2000000 in
theorem l5Text_9 (d : Nat) (H : TxC d) (pat : Bool) (deep : Int) (x : Ex (d + 1)) (a3 : Option Addr) (c3 : Nat) (a4 : Option Addr) (c4 : Nat) (w : World) (h : Hand d w pat deep x a3 c3 a4) (hk : x.K = 9) (R : ByteArray) (hR0 : R = ba (txtX (d + 1) x)) :
    Calls Tryz.prog 11 #[.agg #[.int .i64 x.K, .int .i64 x.N, .string x.S, .slice a3 x.E.length c3, .slice a4 x.C.length c4]] w fun r w' => r = .returned (.string R) ∧ Below w.heap.size w w' := by
  rw [txtX_eq, hk, body9] at hR0
  rw [hk]
  have HH : Hid (Hand d w pat deep x a3 c3 a4) := h
  have hfit := h.good.2.1.1
  rw [hk] at hfit
  have hf := (fit9 _ _ _ _).1 hfit
  have hsz := fit_size hfit
  have hlen := h.lens
  obtain ⟨len, hl⟩ : ∃ l, x.E.length = l := ⟨_, rfl⟩
  obtain ⟨l4, hl4⟩ : ∃ l, x.C.length = l := ⟨_, rfl⟩
  obtain ⟨N, hN⟩ : ∃ N, x.N = N := ⟨_, rfl⟩
  obtain ⟨S, hS⟩ : ∃ S, x.S = S := ⟨_, rfl⟩
  have HL : Hid (x.E.length = len ∧ x.C.length = l4) := ⟨hl, hl4⟩
  have HT : Hid (TxC d) := H
  rw [hN, hS, hl, hl4] at hf
  rw [hl, hl4] at hlen
  rw [hS] at hsz
  try rw [hS] at hR0
  try rw [hN] at hR0
  rw [hN, hS, hl, hl4]
  obtain ⟨W, hW⟩ : ∃ W, W = w.alloc (.cells #[.int .i64 9, .int .i64 N, .string S, .slice a3 len c3, .slice a4 l4 c4] 39) := ⟨_, rfl⟩
  have hA : Below w.heap.size w W := by rw [hW]; exact (Below.refl _ _).alloc (Nat.le_refl _) _
  have hWz : w.heap.size < W.heap.size := by rw [hW]; simp
  have hB1 : W.heap[w.heap.size]? = some (.cells #[.int .i64 9, .int .i64 N, .string S, .slice a3 len c3, .slice a4 l4 c4] 39 (0, 0)) := by rw [hW]; exact heap_alloc_new w _
  have HHW : Hid (Hand d W pat deep x a3 c3 a4) := h.later hA
  have HW : Hid (W = _) := hW
  obtain ⟨t, ht⟩ : ∃ t, x.E[0]? = some t := ⟨_, List.getElem?_eq_getElem (by omega)⟩
  obtain ⟨tb, tof, vs, et, hvl, tcell, tre⟩ := HHW.out.el (0) t ht
  obtain ⟨t0, t1, t2, ta3, tl3, tc3, ta4, tl4, tc4, rfl⟩ := ExC.shape _ _ _ _ tre
  have tm := List.mem_of_getElem? ht
  have tp := h.parts tm
  subst et
  have hC := H _ t pat (deep - 1) W (ExC.lasts d _ _ _ _ tre (Below.refl _ _)) tp.1 tp.2.1
  have hD1s : (ba (txtX d t)).size ≤ 32000 := tp.2.2
  obtain ⟨CT, hCT⟩ : ∃ l, (x.C.map fun c => (txtX d c.1 ++ arr) ++ txtX d c.2) = l := ⟨_, rfl⟩
  have HCT : Hid (∀ (j : Nat) (c : Ex d × Ex d), x.C[j]? = some c → CT[j]? = some ((txtX d c.1 ++ arr) ++ txtX d c.2)) := fun j c hc => by rw [← hCT, List.getElem?_map, hc]; rfl
  have HCL : Hid (CT.length = l4) := by rw [← hCT, List.length_map]; exact hl4
  have HCS : Hid (∀ j, (joinS smc (CT.take j)).length ≤ 32000) := fun j => by
    have h1 := joinS_lim smc rfl CT j
    have h2 : sumLen CT ≤ 32 * (x.C.map (ClF (cntX d))).sum := by
      unfold sumLen
      rw [← hCT, List.map_map, ← sum_map_mul]
      refine sum_map_le _ _ x.C fun c hc => ?_
      have h3 := h.clause hc
      have h4 := txtX_len d true (deep - 1) c.1 h3.1.1
      have h5 := txtX_len d false (deep - 1) c.2 h3.2.1
      show 2 + ((txtX d c.1 ++ arr) ++ txtX d c.2).length ≤ 32 * (cntX d c.1 + cntX d c.2)
      rw [List.length_append, List.length_append]
      have : arr.length = 4 := rfl
      omega
    have h6 := h.cnt
    have h7 : cntX (d + 1) x = 1 + (x.E.map (cntX d)).sum + (x.C.map (ClF (cntX d))).sum := rfl
    omega
  have HR : Hid (ba (((([99, 97, 115, 101, 32] ++ joinS cmm (x.E.map (txtX d))) ++ [32, 111, 102, 32]) ++ joinS smc CT) ++ [32, 101, 110, 100]) = (((⟨#[99, 97, 115, 101, 32]⟩ ++ ba (txtX d t)) ++ ⟨#[32, 111, 102, 32]⟩) ++ ba (joinS smc CT)) ++ ⟨#[32, 101, 110, 100]⟩) := by
    show _ = (((ba [99, 97, 115, 101, 32] ++ _) ++ ba [32, 111, 102, 32]) ++ _) ++ ba [32, 101, 110, 100]
    rw [ba_app, ba_app, ba_app, ba_app]
    have hd : x.E = [t] := by
      apply List.ext_getElem?
      intro i
      rcases (by omega : i = 0 ∨ 1 ≤ i) with rfl | hi
      · exact ht
      · rw [List.getElem?_eq_none (by omega), List.getElem?_eq_none (by simpa using hi)]
    rw [hd, List.map_cons, List.map_nil, joinS_one]
  obtain ⟨D1, hD1⟩ : ∃ D, ba (txtX d t) = D := ⟨_, rfl⟩
  rw [hD1] at hC HR hD1s
  obtain ⟨P, hP⟩ : ∃ P, ((⟨#[99, 97, 115, 101, 32]⟩ : ByteArray) ++ D1) ++ ⟨#[32, 111, 102, 32]⟩ = P := ⟨_, rfl⟩
  have hPs : P.size ≤ 32009 := by
    rw [← hP, ByteArray.size_append, ByteArray.size_append]
    show 5 + _ + 4 ≤ _
    omega
  have HP : Hid (P = ((⟨#[99, 97, 115, 101, 32]⟩ : ByteArray) ++ D1) ++ ⟨#[32, 111, 102, 32]⟩) := hP.symm
  rw [hP] at HR
  have HHC := HH
  rw [hW] at hC
  have tf0 : W.cell? ⟨tb, tof + (0) * 5, none⟩ = some _ := tcell 0 _ rfl
  have tf1 : W.cell? ⟨tb, tof + (0) * 5 + 1, none⟩ = some _ := tcell 1 _ rfl
  have tf2 : W.cell? ⟨tb, tof + (0) * 5 + 2, none⟩ = some _ := tcell 2 _ rfl
  have tf3 : W.cell? ⟨tb, tof + (0) * 5 + 3, none⟩ = some _ := tcell 3 _ rfl
  have tf4 : W.cell? ⟨tb, tof + (0) * 5 + 4, none⟩ = some _ := tcell 4 _ rfl
  obtain ⟨-, -, rfl, -⟩ := hf
  rw [hW] at tf0 tf1 tf2 tf3 tf4
  simp only [Nat.zero_mul, Nat.add_zero] at tf0 tf1 tf2 tf3 tf4
  rw [hCT] at hR0
  clear tcell tre hvl tm tp hD1 ht hP hCT hW
  have HRR : Hid (R = _) := hR0.trans HR.out
  clear hl hl4 hN hS H h hfit hR0 HR
  try clear hf
  go_enter Tryz.func11, Tryz.ntmps11
  go_wp2_with fail
  refine hC.mono ?_
  clear hC tf0 tf1 tf2 tf3 tf4
  rintro e w1 ⟨rfl, hB⟩
  rw [← HW.out] at hB
  go_wp2_with fail
  rw [← HP.out]
  go_loopw [4, 5] (fun s i wr => ∃ (j : Nat) (p : ByteArray), j ≤ l4 ∧ i = .int .i64 j ∧ s = .string p ∧ p.size ≤ 64009 ∧ Hid (Below W.heap.size W wr) ∧ Hid (p = P ++ ba (joinS smc (CT.take j)))) (fun _ i _ => l4 - (intOf i).toNat)
  case atStart => exact ⟨0, P, Nat.zero_le _, rfl, rfl, Nat.le_trans hPs (by omega), hB, by show P = P ++ ba []; apply ByteArray.ext; simp [ByteArray.data_append, ba]⟩
  case round =>
    obtain ⟨j, p, hj, rfl, rfl, hps, hb, HPP⟩ := hrel
    have hrow := (hb.out.block _ hWz).trans hB1
    have b4 : wr.cell? ⟨w.heap.size, 4, none⟩ = some (.slice a4 l4 c4) := by rw [cell_of_row wr _ 4 _ _ _ hrow]; rfl
    have hbw : Below w.heap.size w wr := hA.trans (hb.out.mono hA.size)
    by_cases hjl : j < l4
    · obtain ⟨⟨t, u⟩, ht⟩ : ∃ t, x.C[j]? = some t := ⟨_, List.getElem?_eq_getElem (by have := HL.out.2; omega)⟩
      obtain ⟨b, o, vs, rfl, hvl, hcell, pv, qv, rfl, hre, hru⟩ := HHW.out.cl j (t, u) ht
      obtain ⟨y0, y1, y2, ya3, yl3, yc3, ya4, yl4, yc4, rfl⟩ := ExC.shape _ _ _ _ hre
      obtain ⟨z0, z1, z2, za3, zl3, zc3, za4, zl4, zc4, rfl⟩ := ExC.shape _ _ _ _ hru
      have hcl := HH.out.clause (List.mem_of_getElem? ht)
      have hC1 : Hid (∀ V : World, Below wr.heap.size wr V → Calls Tryz.prog 11 #[.agg #[.int .i64 y0, .int .i64 y1, .string y2, .slice ya3 yl3 yc3, .slice ya4 yl4 yc4]] V fun r w' => r = .returned (.string (ba (txtX d t))) ∧ Below V.heap.size V w') := fun V hV => HT.out _ t true (deep - 1) V (ExC.lasts d _ _ _ _ (ExC.lasts d _ _ _ _ hre hb.out) hV) hcl.1.1 hcl.1.2.1
      have hC2 : Hid (∀ V : World, Below wr.heap.size wr V → Calls Tryz.prog 11 #[.agg #[.int .i64 z0, .int .i64 z1, .string z2, .slice za3 zl3 zc3, .slice za4 zl4 zc4]] V fun r w' => r = .returned (.string (ba (txtX d u))) ∧ Below V.heap.size V w') := fun V hV => HT.out _ u false (deep - 1) V (ExC.lasts d _ _ _ _ (ExC.lasts d _ _ _ _ hru hb.out) hV) hcl.2.1 hcl.2.2.1
      have hD2s : (ba (txtX d t)).size ≤ 32000 := hcl.1.2.2
      have hD3s : (ba (txtX d u)).size ≤ 32000 := hcl.2.2.2
      have hst := joinS_succ smc CT j _ (HCT.out j _ ht)
      have f0 : wr.cell? ⟨b, o + j * 10, none⟩ = some _ := cell_later hb.out (hcell 0 _ rfl)
      have f1 : wr.cell? ⟨b, o + j * 10 + 1, none⟩ = some _ := cell_later hb.out (hcell 1 _ rfl)
      have f2 : wr.cell? ⟨b, o + j * 10 + 2, none⟩ = some _ := cell_later hb.out (hcell 2 _ rfl)
      have f3 : wr.cell? ⟨b, o + j * 10 + 3, none⟩ = some _ := cell_later hb.out (hcell 3 _ rfl)
      have f4 : wr.cell? ⟨b, o + j * 10 + 4, none⟩ = some _ := cell_later hb.out (hcell 4 _ rfl)
      have f5 : wr.cell? ⟨b, o + j * 10 + 5, none⟩ = some _ := cell_later hb.out (hcell 5 _ rfl)
      have f6 : wr.cell? ⟨b, o + j * 10 + 6, none⟩ = some _ := cell_later hb.out (hcell 6 _ rfl)
      have f7 : wr.cell? ⟨b, o + j * 10 + 7, none⟩ = some _ := cell_later hb.out (hcell 7 _ rfl)
      have f8 : wr.cell? ⟨b, o + j * 10 + 8, none⟩ = some _ := cell_later hb.out (hcell 8 _ rfl)
      have f9 : wr.cell? ⟨b, o + j * 10 + 9, none⟩ = some _ := cell_later hb.out (hcell 9 _ rfl)
      obtain ⟨D2, hD2⟩ : ∃ D, ba (txtX d t) = D := ⟨_, rfl⟩
      obtain ⟨D3, hD3⟩ : ∃ D, ba (txtX d u) = D := ⟨_, rfl⟩
      rw [hD2] at hC1 hD2s
      rw [hD3] at hC2 hD3s
      have hjl' : (j : Int) < (l4 : Int) := by omega
      clear hcell hre hru hvl hcl hrow ht HHW HH HT HCT
      by_cases hj0 : 0 < j
      · have hj1 : (0 : Int) < (j : Int) := by omega
        rw [if_pos hj0] at hst
        have HST : Hid ((((p ++ ba smc) ++ D2) ++ ⟨#[32, 45, 62, 32]⟩) ++ D3 = P ++ ba (joinS smc (CT.take (j + 1)))) := by
          show ((((p ++ ba smc) ++ D2) ++ ba arr) ++ D3) = _
          rw [HPP.out, ← hD2, ← hD3, hst]
          apply ByteArray.ext
          simp [ByteArray.data_append, ba, smc, arr]
        have hss : ((((p ++ ba smc) ++ D2) ++ ⟨#[32, 45, 62, 32]⟩) ++ D3).size ≤ 64009 := by
          rw [HST.out, ByteArray.size_append, ba_size]
          have := HCS.out (j + 1)
          omega
        have hs1 : (p ++ ba smc).size ≤ 64011 := by rw [ByteArray.size_append]; show _ + 2 ≤ _; omega
        have hs2 : ((p ++ ba smc) ++ D2).size ≤ 96011 := by rw [ByteArray.size_append]; omega
        have hs3 : (((p ++ ba smc) ++ D2) ++ ⟨#[32, 45, 62, 32]⟩).size ≤ 96015 := by rw [ByteArray.size_append]; show _ + 4 ≤ _; omega
        clear hst hD2 hD3 HPP HCS
        go_wp2_with fail
        have hne := After.some wr
        have q4 := After.cell b4
        have g0 := After.cell f0
        have g1 := After.cell f1
        have g2 := After.cell f2
        have g3 := After.cell f3
        have g4 := After.cell f4
        have g5 := After.cell f5
        have g6 := After.cell f6
        have g7 := After.cell f7
        have g8 := After.cell f8
        have g9 := After.cell f9
        refine wp_region_after (by kernel_rfl) (by kernel_rfl) ?_
        repeat (go_big_quiet_step (first | (go_at_call 11; with_reducible exact calls_after (hC1.out _ (After.bel _))) | (go_at_call 11; with_reducible exact calls_after (hC2.out _ (After.bel _)))))
        refine wpQuiet_nil ?_
        rintro _ ⟨nq, rfl⟩
        have hb2 : Hid (Below W.heap.size W nq.now) := hb.out.trans (nq.bel.mono hb.out.size)
        clear q4 g0 g1 g2 g3 g4 g5 g6 g7 g8 g9 f0 f1 f2 f3 f4 f5 f6 f7 f8 f9 b4
        go_wp2_with fail
        go_roundw
        case rel => exact ⟨j + 1, _, by omega, by go_num, rfl, hss, hb2, HST⟩
        case measure => simp [intOf]; omega
      · have hj1 : decide ((0 : Int) < (j : Int)) = false := by simp; omega
        rw [if_neg (by omega)] at hst
        have HST : Hid (((p ++ D2) ++ ⟨#[32, 45, 62, 32]⟩) ++ D3 = P ++ ba (joinS smc (CT.take (j + 1)))) := by
          show (((p ++ D2) ++ ba arr) ++ D3) = _
          rw [HPP.out, ← hD2, ← hD3, hst]
          apply ByteArray.ext
          simp [ByteArray.data_append, ba, smc, arr]
        have hss : (((p ++ D2) ++ ⟨#[32, 45, 62, 32]⟩) ++ D3).size ≤ 64009 := by
          rw [HST.out, ByteArray.size_append, ba_size]
          have := HCS.out (j + 1)
          omega
        have hs1 : p.size ≤ 64011 := by exact Nat.le_trans hps (by omega)
        have hs2 : (p ++ D2).size ≤ 96011 := by rw [ByteArray.size_append]; omega
        have hs3 : ((p ++ D2) ++ ⟨#[32, 45, 62, 32]⟩).size ≤ 96015 := by rw [ByteArray.size_append]; show _ + 4 ≤ _; omega
        clear hst hD2 hD3 HPP HCS
        go_wp2_with fail
        have hne := After.some wr
        have q4 := After.cell b4
        have g0 := After.cell f0
        have g1 := After.cell f1
        have g2 := After.cell f2
        have g3 := After.cell f3
        have g4 := After.cell f4
        have g5 := After.cell f5
        have g6 := After.cell f6
        have g7 := After.cell f7
        have g8 := After.cell f8
        have g9 := After.cell f9
        refine wp_region_after (by kernel_rfl) (by kernel_rfl) ?_
        repeat (go_big_quiet_step (first | (go_at_call 11; with_reducible exact calls_after (hC1.out _ (After.bel _))) | (go_at_call 11; with_reducible exact calls_after (hC2.out _ (After.bel _)))))
        refine wpQuiet_nil ?_
        rintro _ ⟨nq, rfl⟩
        have hb2 : Hid (Below W.heap.size W nq.now) := hb.out.trans (nq.bel.mono hb.out.size)
        clear q4 g0 g1 g2 g3 g4 g5 g6 g7 g8 g9 f0 f1 f2 f3 f4 f5 f6 f7 f8 f9 b4
        go_wp2_with fail
        go_roundw
        case rel => exact ⟨j + 1, _, by omega, by go_num, rfl, hss, hb2, HST⟩
        case measure => simp [intOf]; omega
    · obtain rfl : j = l4 := by omega
      have HF : Hid (p = P ++ ba (joinS smc CT)) := by
        have := HPP.out
        rw [List.take_of_length_le (by rw [HCL.out]; exact Nat.le_refl _)] at this
        exact this
      have hjl' : decide ((j : Int) < (j : Int)) = false := by simp
      clear HPP HCS HCT hrow hb HHW HH HT
      go_wp2_with fail
      go_ret
      exact ⟨by rw [HRR.out, ← HF.out]; rfl, hbw⟩

theorem l5Text_any : ∀ d, TxC d := by
  intro d
  induction d with
  | zero => intro vs e pat deep w h; exact h.elim
  | succ d ih =>
    rintro vs x pat deep w ⟨ve, vc, rfl, ⟨h1, k1⟩, h2, k2⟩ hg hc
    obtain ⟨a3, c3, rfl, hel⟩ := h1
    obtain ⟨a4, c4, rfl, hcl⟩ := h2
    have hh : Hand d w pat deep x a3 c3 a4 := ⟨hel, hcl, hg, hc, k1 _ _ _ rfl⟩
    have hk : 1 ≤ x.K ∧ x.K ≤ 9 := Classical.byContradiction fun hn => fit_no _ _ _ _ _ hn hg.2.1.1
    rcases (by omega : x.K = 1 ∨ x.K = 2 ∨ x.K = 3 ∨ x.K = 4 ∨ x.K = 5 ∨ x.K = 6 ∨ x.K = 7 ∨ x.K = 8 ∨ x.K = 9) with hk | hk | hk | hk | hk | hk | hk | hk | hk
    · exact l5Text_1 d ih pat deep x a3 c3 a4 c4 w hh hk _ rfl
    · exact l5Text_2 d ih pat deep x a3 c3 a4 c4 w hh hk _ rfl
    · exact l5Text_3 d ih pat deep x a3 c3 a4 c4 w hh hk _ rfl
    · exact l5Text_4 d ih pat deep x a3 c3 a4 c4 w hh hk _ rfl
    · exact l5Text_5 d ih pat deep x a3 c3 a4 c4 w hh hk _ rfl
    · exact l5Text_6 d ih pat deep x a3 c3 a4 c4 w hh hk _ rfl
    · exact l5Text_7 d ih pat deep x a3 c3 a4 c4 w hh hk _ rfl
    · exact l5Text_8 d ih pat deep x a3 c3 a4 c4 w hh hk _ rfl
    · exact l5Text_9 d ih pat deep x a3 c3 a4 c4 w hh hk _ rfl

end Go.Proofs.YtgeedoeaepcmcaaGreatDoor
