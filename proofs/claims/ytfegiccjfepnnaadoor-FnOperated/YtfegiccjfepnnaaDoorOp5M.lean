/- An operation, the program's: of numbers, of terms. -/
import Derived.Test.YtfegiccjfepnnaaDoorOp4M
import Derived.Test.YtfegiccjfepnnaaDoorOp1M
import Derived.Test.YtfegiccjfepnnaaDoorOd3M
import Derived.Test.YtfegiccjfepnnaaDoorIOkM
namespace Go.Proofs.YtfegiccjfepnnaaDoor
open Go.RowKit
set_option linter.unusedVariables false

/-- A fault as an error. -/
def faultV (c : Int) : Value := if c = 0 then .nilIface else .iface 68 (.int .i64 c)
/-- An answer that is a term without parts, and an error. -/
def PRes (r : Int × Int × ByteArray × Int) (w : World) (e : Ending) (w' : World) : Prop := e = .returned (.tuple #[.agg #[.int .i64 r.1, .int .i64 r.2.1, .string r.2.2.1, .slice none 0 0], faultV r.2.2.2]) ∧ Below w.heap.size w w'
open Classical in
noncomputable def ariD (r ka kb : Int) : Int × Int × ByteArray × Int := if ka = 1 ∧ kb = 1 ∧ fitsN r then (1, r, ⟨#[]⟩, 0) else (0, 0, ⟨#[]⟩, 3)
theorem rd_none (w : World) : RdL 0 w (.slice none 0 0) [] := ⟨none, 0, rfl⟩
theorem right_one (n : Int) : Right 0 1 n ByteArray.empty [] 8 300 ↔ fitsN n := by
  unfold Right fitsN
  constructor
  · intro h; exact ((shape1 _ _ _).1 h.1).1
  · intro h; exact ⟨(shape1 _ _ _).2 ⟨h, rfl, rfl⟩, by simp [OkL], by simp [depL], by simp [cntL]⟩

set_option maxRecDepth 100000 in
set_option maxHeartbeats 2000000 in
theorem ari1_any (g : Nat) (eg : ∀ args w, (callFunc g args).run Tryd.prog w = .ok (.enter g args) w) (r : Int) (ka na : Int) (sa : ByteArray) (la : Value) (kb nb : Int) (sb : ByteArray) (lb : Value) (q : Nat) (w : World) (hq : w.cell? ⟨q, 0, none⟩ = some (.func (.func g) #[] #[])) (hql : q < w.heap.size)
    (hg : ka = 1 → kb = 1 → ∀ W : World, Calls Tryd.prog g #[.int .i64 na, .int .i64 nb] W fun e w' => e = .returned (.int .i64 r) ∧ W = w') :
    Calls Tryd.prog 72 #[.agg #[.int .i64 ka, .int .i64 na, .string sa, la], .agg #[.int .i64 kb, .int .i64 nb, .string sb, lb], .pointer (some ⟨q, 0, none⟩)] w fun e w' => PRes (ariD r ka kb) w e w' := by
  obtain ⟨RR, hRR⟩ : ∃ x, ariD r ka kb = x := ⟨_, rfl⟩
  have HNO : Hid (¬ (ka = 1 ∧ kb = 1 ∧ fitsN r) → RR = (0, 0, ⟨#[]⟩, 3)) := fun h => by rw [← hRR]; unfold ariD; exact if_neg h
  have HYES : Hid (ka = 1 ∧ kb = 1 ∧ fitsN r → RR = (1, r, ⟨#[]⟩, 0)) := fun h => by rw [← hRR]; unfold ariD; exact if_pos h
  rw [hRR]
  clear hRR
  unfold PRes
  obtain ⟨W, hW⟩ : ∃ W, W = ((w.alloc (.cells #[.int .i64 ka, .int .i64 na, .string sa, la] 28)).alloc (.cells #[.int .i64 kb, .int .i64 nb, .string sb, lb] 28)).alloc (.cells #[.int .i64 0, .int .i64 0, .string ⟨#[]⟩, .slice none 0 0] 28) := ⟨_, rfl⟩
  obtain ⟨nA, nB, nR⟩ := heap_three w (.cells #[.int .i64 ka, .int .i64 na, .string sa, la] 28) (.cells #[.int .i64 kb, .int .i64 nb, .string sb, lb] 28) (.cells #[.int .i64 0, .int .i64 0, .string ⟨#[]⟩, .slice none 0 0] 28)
  rw [← hW] at nA nB nR
  have hA : Below w.heap.size w W := by rw [hW]; exact (((Below.refl _ _).alloc (Nat.le_refl _) _).alloc (by simp) _).alloc (by simp; omega) _
  have HB : Hid (Below w.heap.size w W) := hA
  have HRB : Hid (∀ V : World, Below W.heap.size W V → (V.cell? ⟨w.heap.size + 1 + 1, 0, none⟩ = some (.int .i64 0) ∧ V.cell? ⟨w.heap.size + 1 + 1, 1, none⟩ = some (.int .i64 0) ∧ V.cell? ⟨w.heap.size + 1 + 1, 2, none⟩ = some (.string ⟨#[]⟩) ∧ V.cell? ⟨w.heap.size + 1 + 1, 3, none⟩ = some (.slice none 0 0)) ∧ V.frozen? ⟨w.heap.size + 1 + 1, 0, none⟩ = false ∧ V.frozen? ⟨w.heap.size + 1 + 1, 1, none⟩ = false ∧ V.frozen? ⟨w.heap.size + 1 + 1, 2, none⟩ = false ∧ V.frozen? ⟨w.heap.size + 1 + 1, 3, none⟩ = false) := fun V hV => by
    have mR := (hV.block _ (lt_row nR)).trans nR
    exact ⟨⟨by rw [cell_of_row V _ 0 _ _ _ mR]; rfl, by rw [cell_of_row V _ 1 _ _ _ mR]; rfl, by rw [cell_of_row V _ 2 _ _ _ mR]; rfl, by rw [cell_of_row V _ 3 _ _ _ mR]; rfl⟩, frozen_of_row V _ _ _ _ mR, frozen_of_row V _ _ _ _ mR, frozen_of_row V _ _ _ _ mR, frozen_of_row V _ _ _ _ mR⟩
  have HST : Hid (∀ (V : World) (x0 x1 x2 x3 : Value), Below W.heap.size W V → Below w.heap.size w ((((V.setCell ⟨w.heap.size + 1 + 1, 0, none⟩ x0).setCell ⟨w.heap.size + 1 + 1, 0 + 1, none⟩ x1).setCell ⟨w.heap.size + 1 + 1, 0 + 2, none⟩ x2).setCell ⟨w.heap.size + 1 + 1, 0 + 3, none⟩ x3)) := fun V x0 x1 x2 x3 hV => (HB.out.trans (hV.mono HB.out.size)).trans ((stores4_below V (w.heap.size + 1 + 1) 0 x0 x1 x2 x3).mono (by omega))
  have HW : Hid (W = _) := hW
  have hq' : W.cell? ⟨q, 0, none⟩ = some (.func (.func g) #[] #[]) := cell_later hA hq
  rw [hW] at hq'
  obtain ⟨⟨r0, r1, r2, r3⟩, z0, z1, z2, z3⟩ := HRB.out W (Below.refl _ _)
  rw [hW] at r0 r1 r2 r3 z0 z1 z2 z3
  clear hq hA nA nB nR hW
  by_cases h1 : ka = 1
  · by_cases h2 : kb = 1
    · have HG : Hid (∀ W : World, _) := hg h1 h2
      clear hg
      subst h1 h2
      go_enter Tryd.func72, Tryd.ntmps72
      go_wp2_with (go_at_fn g; refine (HG.out _).mono ?_; rintro e w' ⟨rfl, rfl⟩)
      refine (termOf_int r _).mono ?_
      rintro e V ⟨rfl, hV⟩
      rw [← HW.out] at hV
      clear r0 r1 r2 r3 z0 z1 z2 z3
      obtain ⟨⟨r0, r1, r2, r3⟩, z0, z1, z2, z3⟩ := HRB.out V hV
      have hT := termOk_any 0 1 r ByteArray.empty (.slice none 0 0) [] (V.alloc (.cells #[.int .i64 1, .int .i64 r, .string ByteArray.empty, .slice none 0 0] 28)) (rd_none _) trivial (by decide)
      have hVA : Below W.heap.size W (V.alloc (.cells #[.int .i64 1, .int .i64 r, .string ByteArray.empty, .slice none 0 0] 28)) := hV.alloc hV.size _
      have nT := heap_alloc_new V (.cells #[.int .i64 1, .int .i64 r, .string ByteArray.empty, .slice none 0 0] 28)
      go_wp2_with fail
      refine hT.mono ?_
      clear hT r0 r1 r2 r3 z0 z1 z2 z3
      rintro e V2 ⟨b, rfl, hb, hV2⟩
      have hB2 : Below W.heap.size W V2 := hVA.trans (hV2.mono hVA.size)
      have mT := (hV2.block _ (lt_row nT)).trans nT
      have t0 : V2.cell? ⟨V.heap.size, 0, none⟩ = some (.int .i64 1) := by rw [cell_of_row V2 _ 0 _ _ _ mT]; rfl
      have t1 : V2.cell? ⟨V.heap.size, 1, none⟩ = some (.int .i64 r) := by rw [cell_of_row V2 _ 1 _ _ _ mT]; rfl
      have t2 : V2.cell? ⟨V.heap.size, 2, none⟩ = some (.string ByteArray.empty) := by rw [cell_of_row V2 _ 2 _ _ _ mT]; rfl
      have t3 : V2.cell? ⟨V.heap.size, 3, none⟩ = some (.slice none 0 0) := by rw [cell_of_row V2 _ 3 _ _ _ mT]; rfl
      obtain ⟨⟨r0, r1, r2, r3⟩, z0, z1, z2, z3⟩ := HRB.out V2 hB2
      have HB2 : Hid (Below W.heap.size W V2) := hB2
      clear hV hVA nT hV2 hB2 mT
      rw [right_one] at hb
      cases b with
      | false =>
        have HR : Hid (RR = (0, 0, ⟨#[]⟩, 3)) := HNO.out fun h => by have := hb.2 h.2.2; cases this
        clear hb HNO HYES HG
        go_wp2_with fail
        refine bodyPost_ret (v := .tuple #[.agg #[.int .i64 0, .int .i64 0, .string ⟨#[]⟩, .slice none 0 0], .iface 68 (.int .i64 3)]) (by first | (simp [results, Tryd.results72, go_sem, r0, r1, r2, r3]; done) | (simp [results, Tryd.results72, go_sem, r0, r1, r2, r3]; rfl)) rfl ⟨by rw [HR.out]; rfl, HST.out V2 _ _ _ _ HB2.out⟩
      | true =>
        have HR : Hid (RR = (1, r, ⟨#[]⟩, 0)) := HYES.out ⟨trivial, trivial, hb.1 rfl⟩
        clear hb HNO HYES HG
        go_wp2_with fail
        refine bodyPost_ret (v := .tuple #[.agg #[.int .i64 1, .int .i64 r, .string ⟨#[]⟩, .slice none 0 0], .nilIface]) (by first | (simp [results, Tryd.results72, go_sem, r0, r1, r2, r3]; done) | (simp [results, Tryd.results72, go_sem, r0, r1, r2, r3]; rfl)) rfl ⟨by rw [HR.out]; rfl, HST.out V2 _ _ _ _ HB2.out⟩
    · have HR : Hid (RR = (0, 0, ⟨#[]⟩, 3)) := HNO.out fun h => h2 h.2.1
      have e1 : (ka != 1) = false := by simpa using h1
      have e2 : (kb != 1) = true := by simpa using h2
      clear hg HNO HYES h1 h2
      go_enter Tryd.func72, Tryd.ntmps72
      go_wp2_with fail
      refine bodyPost_ret (v := .tuple #[.agg #[.int .i64 0, .int .i64 0, .string ⟨#[]⟩, .slice none 0 0], .iface 68 (.int .i64 3)]) (by first | (simp [results, Tryd.results72, go_sem, r0, r1, r2, r3]; done) | (simp [results, Tryd.results72, go_sem, r0, r1, r2, r3]; rfl)) rfl ⟨by rw [HR.out]; rfl, ?_⟩
      rw [← HW.out]
      exact HB.out
  · have HR : Hid (RR = (0, 0, ⟨#[]⟩, 3)) := HNO.out fun h => h1 h.1
    have e1 : (ka != 1) = true := by simpa using h1
    clear hg HNO HYES h1
    go_enter Tryd.func72, Tryd.ntmps72
    go_wp2_with fail
    refine bodyPost_ret (v := .tuple #[.agg #[.int .i64 0, .int .i64 0, .string ⟨#[]⟩, .slice none 0 0], .iface 68 (.int .i64 3)]) (by first | (simp [results, Tryd.results72, go_sem, r0, r1, r2, r3]; done) | (simp [results, Tryd.results72, go_sem, r0, r1, r2, r3]; rfl)) rfl ⟨by rw [HR.out]; rfl, ?_⟩
    rw [← HW.out]
    exact HB.out

end Go.Proofs.YtfegiccjfepnnaaDoor

/- An operation, the program's: of terms. -/
namespace Go.Proofs.YtfegiccjfepnnaaDoor
open Go.RowKit
set_option linter.unusedVariables false

set_option maxRecDepth 100000 in
set_option maxHeartbeats 2000000 in
theorem cmp1_any (g : Nat) (eg : ∀ args w, (callFunc g args).run Tryd.prog w = .ok (.enter g args) w) (P : Prop) (ka na : Int) (sa : ByteArray) (la : Value) (kb nb : Int) (sb : ByteArray) (lb : Value) (q : Nat) (w : World) (hq : w.cell? ⟨q, 0, none⟩ = some (.func (.func g) #[] #[])) (hql : q < w.heap.size)
    (hg : ∀ W : World, Below w.heap.size w W → Calls Tryd.prog g #[.agg #[.int .i64 ka, .int .i64 na, .string sa, la], .agg #[.int .i64 kb, .int .i64 nb, .string sb, lb]] W fun e w' => BRes P W e w') :
    Calls Tryd.prog 74 #[.agg #[.int .i64 ka, .int .i64 na, .string sa, la], .agg #[.int .i64 kb, .int .i64 nb, .string sb, lb], .pointer (some ⟨q, 0, none⟩)] w fun e w' => ∃ b : Bool, Hid (b = true ↔ P) ∧ PRes (2, 0, boolT b, 0) w e w' := by
  unfold PRes
  have HG : Hid (∀ W : World, Below w.heap.size w W → _) := hg
  clear hg
  obtain ⟨W, hW⟩ : ∃ W, W = ((w.alloc (.cells #[.int .i64 ka, .int .i64 na, .string sa, la] 28)).alloc (.cells #[.int .i64 kb, .int .i64 nb, .string sb, lb] 28)).alloc (.cells #[.int .i64 0, .int .i64 0, .string ⟨#[]⟩, .slice none 0 0] 28) := ⟨_, rfl⟩
  obtain ⟨nA, nB, nR⟩ := heap_three w (.cells #[.int .i64 ka, .int .i64 na, .string sa, la] 28) (.cells #[.int .i64 kb, .int .i64 nb, .string sb, lb] 28) (.cells #[.int .i64 0, .int .i64 0, .string ⟨#[]⟩, .slice none 0 0] 28)
  rw [← hW] at nA nB nR
  have hA : Below w.heap.size w W := by rw [hW]; exact (((Below.refl _ _).alloc (Nat.le_refl _) _).alloc (by simp) _).alloc (by simp; omega) _
  have HB : Hid (Below w.heap.size w W) := hA
  have HRB : Hid (∀ V : World, Below W.heap.size W V → (V.cell? ⟨w.heap.size + 1 + 1, 0, none⟩ = some (.int .i64 0) ∧ V.cell? ⟨w.heap.size + 1 + 1, 1, none⟩ = some (.int .i64 0) ∧ V.cell? ⟨w.heap.size + 1 + 1, 2, none⟩ = some (.string ⟨#[]⟩) ∧ V.cell? ⟨w.heap.size + 1 + 1, 3, none⟩ = some (.slice none 0 0)) ∧ V.frozen? ⟨w.heap.size + 1 + 1, 0, none⟩ = false ∧ V.frozen? ⟨w.heap.size + 1 + 1, 1, none⟩ = false ∧ V.frozen? ⟨w.heap.size + 1 + 1, 2, none⟩ = false ∧ V.frozen? ⟨w.heap.size + 1 + 1, 3, none⟩ = false) := fun V hV => by
    have mR := (hV.block _ (lt_row nR)).trans nR
    exact ⟨⟨by rw [cell_of_row V _ 0 _ _ _ mR]; rfl, by rw [cell_of_row V _ 1 _ _ _ mR]; rfl, by rw [cell_of_row V _ 2 _ _ _ mR]; rfl, by rw [cell_of_row V _ 3 _ _ _ mR]; rfl⟩, frozen_of_row V _ _ _ _ mR, frozen_of_row V _ _ _ _ mR, frozen_of_row V _ _ _ _ mR, frozen_of_row V _ _ _ _ mR⟩
  have HST : Hid (∀ (V : World) (x0 x1 x2 x3 : Value), Below W.heap.size W V → Below w.heap.size w ((((V.setCell ⟨w.heap.size + 1 + 1, 0, none⟩ x0).setCell ⟨w.heap.size + 1 + 1, 0 + 1, none⟩ x1).setCell ⟨w.heap.size + 1 + 1, 0 + 2, none⟩ x2).setCell ⟨w.heap.size + 1 + 1, 0 + 3, none⟩ x3)) := fun V x0 x1 x2 x3 hV => (HB.out.trans (hV.mono HB.out.size)).trans ((stores4_below V (w.heap.size + 1 + 1) 0 x0 x1 x2 x3).mono (by omega))
  have HW : Hid (W = _) := hW
  have hq' : W.cell? ⟨q, 0, none⟩ = some (.func (.func g) #[] #[]) := cell_later hA hq
  rw [hW] at hq'
  obtain ⟨⟨r0, r1, r2, r3⟩, z0, z1, z2, z3⟩ := HRB.out W (Below.refl _ _)
  rw [hW] at r0 r1 r2 r3 z0 z1 z2 z3
  clear hq hA nA nB nR hW
  go_enter Tryd.func74, Tryd.ntmps74
  have hC := HG.out W HB.out
  rw [HW.out] at hC
  go_wp2_with (go_at_fn g; refine hC.mono ?_)
  rintro e V ⟨b, rfl, hb, hV⟩
  rw [← HW.out] at hV
  have HP : Hid (b = true ↔ P) := hb
  have hF := formatBool_any b V
  clear hC hb r0 r1 r2 r3 z0 z1 z2 z3 hq'
  go_wp2_with fail
  refine hF.mono ?_
  clear hF
  rintro e V1 ⟨rfl, rfl⟩
  go_wp2_with fail
  refine (termOf_atom _ _).mono ?_
  rintro e V2 ⟨rfl, hV2⟩
  have hB2 : Below W.heap.size W V2 := hV.trans (hV2.mono hV.size)
  obtain ⟨⟨r0, r1, r2, r3⟩, z0, z1, z2, z3⟩ := HRB.out V2 hB2
  have HB2 : Hid (Below W.heap.size W V2) := hB2
  clear hV hV2 hB2
  go_wp2_with fail
  refine bodyPost_ret (v := .tuple #[.agg #[.int .i64 2, .int .i64 0, .string (boolT b), .slice none 0 0], .nilIface]) (by first | (simp [results, Tryd.results74, go_sem, r0, r1, r2, r3]; done) | (simp [results, Tryd.results74, go_sem, r0, r1, r2, r3]; rfl)) rfl ⟨b, HP, rfl, HST.out V2 _ _ _ _ HB2.out⟩

end Go.Proofs.YtfegiccjfepnnaaDoor
