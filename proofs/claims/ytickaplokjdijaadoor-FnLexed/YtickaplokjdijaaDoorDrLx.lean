/- What a draw of a text of tokens comes to: a text that is not long; nothing old is written. -/
import Derived.Test.YtickaplokjdijaaDoorTkSame
namespace Go.Proofs.YtickaplokjdijaaDoor
open Go.RowKit
set_option linter.unusedVariables false

def drL1 : List ByteArray := [⟨#[32, 48, 49]⟩, ⟨#[195, 169]⟩, ⟨#[61]⟩, ⟨#[32, 37, 32, 101, 110, 100, 10, 32, 120]⟩, ⟨#[37]⟩, ⟨#[45, 62, 45]⟩, ⟨#[61, 61, 61]⟩, ⟨#[49, 48, 48, 48, 48, 48, 48, 48, 48, 48, 48, 48, 49]⟩, ⟨#[57, 57, 57, 57, 57, 57, 57, 57, 57, 57, 57, 57, 57, 57]⟩, ⟨#[97, 49, 66]⟩, ⟨#[65, 32, 98]⟩, ⟨#[116, 119, 101, 110, 116, 121, 111, 110, 101, 98, 121, 116, 101, 115, 116, 119, 101, 110, 116, 121, 111]⟩, ⟨#[9, 13, 10]⟩, ⟨#[95]⟩, ⟨#[62]⟩]
def drL2 : List ByteArray := [⟨#[102, 40, 88, 41, 45, 62, 123, 111, 107, 44, 88, 125, 46]⟩, ⟨#[97, 37, 32, 98, 10, 99]⟩, ⟨#[91, 72, 124, 84, 93]⟩, ⟨#[40, 49, 43, 50, 41]⟩, ⟨#[99, 97, 115, 101, 32, 88, 32, 111, 102, 32, 95, 45, 62, 97, 59, 98, 45, 62, 99, 32, 101, 110, 100]⟩]
theorem drL1_sz : ∀ x ∈ drL1, x.size ≤ 30 := by
  unfold drL1; simp only [List.forall_mem_cons, List.not_mem_nil, false_implies, implies_true, and_true]; decide
theorem drL2_sz : ∀ x ∈ drL2, x.size ≤ 30 := by
  unfold drL2; simp only [List.forall_mem_cons, List.not_mem_nil, false_implies, implies_true, and_true]; decide

set_option maxHeartbeats 400000 in
theorem l1Once_any (p len cap : Nat) (a : Option Addr) (zs : List Int) (n : Int) (w : World) (hc : Cur w p a len cap) (hr : IsRow .u8 w a len cap zs) (hne : ∀ x, a = some x → 0 < cap → x.block ≠ p) (hm : len ≤ 4611686018427387904) (hn : 0 < n) (hn' : n ≤ 4611686018427387904) :
    Calls Tryd.prog 41 #[.pointer (some ⟨p, 0, none⟩), .int .i64 n] w fun e w' => ∃ b : Bool, e = .returned (.bool b) ∧ Cur w' p a len cap ∧ w.grownBy w' (some p) := by
  have HB := l1Below_any p len cap a zs n w hc hr hne hm hn hn'
  clear hc hr hne
  go_enter Tryd.func41, Tryd.ntmps41
  go_wp2_with fail
  refine HB.mono ?_
  clear HB
  rintro e w1 ⟨y, hy0, hy1, rfl, hc1, hg1⟩
  go_wp2
  go_ret
  exact ⟨_, rfl, hc1, hg1⟩

/-- The model joins few tokens to a text that is not long. -/
theorem specJoinFew_any (g : Option Addr) (c : Nat) (ts : List Tk) (w : World) (n : Nat) (hok : ∀ t ∈ ts, t.2.2.size ≤ 20) (hn : ts.length = n) (hl : n ≤ 10) (hr : RdO w g ts) :
    Calls Tryd.prog 26 #[.slice g n c] w fun e w' => ∃ x, e = .returned (.string x) ∧ x.size ≤ 1000 ∧ Below w.heap.size w w' := by
  subst hn
  have h1 := sP_small ts hok
  refine (specJoin_any g c ts w hr ⟨by omega, fun t ht => Nat.le_trans (hok t ht) (by unfold maxLen; omega)⟩ (by omega)).mono ?_
  rintro e w' ⟨x, rfl, HJ, hb⟩
  have h2 := HJ.out.size
  exact ⟨x, rfl, by omega, hb⟩

set_option maxHeartbeats 2000000 in
theorem drawLex_any (a : Option Addr) (len cap : Nat) (zs : List Int) (w : World) (hr : IsRow .u8 w a len cap zs) (hm : len ≤ 1048576) :
    Calls Tryd.prog 15 #[.slice a len cap] w fun e w' => ∃ s : ByteArray, e = .returned (.string s) ∧ s.size ≤ 10000 ∧ Below w.heap.size w w' := by
  have hne : ∀ x, a = some x → 0 < cap → x.block ≠ w.heap.size := isRow_old hr
  have hN := l1New_any a len cap zs w hr (by omega)
  have HS := fun (W : World) (hc : Cur W w.heap.size a len cap) (hr : IsRow .u8 W a len cap zs) => l3Tokens_any w.heap.size len cap a zs 8 W hc hr hne (by omega) (by omega) (by omega)
  have HB : Hid (∀ (n : Int) (W : World) (hc : Cur W w.heap.size a len cap) (hr : IsRow .u8 W a len cap zs), 0 < n → n ≤ 4611686018427387904 → Calls Tryd.prog 39 #[.pointer (some ⟨w.heap.size, 0, none⟩), .int .i64 n] W fun e w' => ∃ y : Int, 0 ≤ y ∧ y < n ∧ e = .returned (.int .i64 y) ∧ Cur w' w.heap.size a len cap ∧ W.grownBy w' (some w.heap.size)) := fun n W hc hr h1 h2 => l1Below_any w.heap.size len cap a zs n W hc hr hne (by omega) h1 h2
  have HO : Hid (∀ (W : World) (hc : Cur W w.heap.size a len cap) (hr : IsRow .u8 W a len cap zs), Calls Tryd.prog 41 #[.pointer (some ⟨w.heap.size, 0, none⟩), .int .i64 200] W fun e w' => ∃ b : Bool, e = .returned (.bool b) ∧ Cur w' w.heap.size a len cap ∧ W.grownBy w' (some w.heap.size)) := fun W hc hr => l1Once_any w.heap.size len cap a zs 200 W hc hr hne (by omega) (by omega) (by omega)
  have HNE : Hid (∀ x, a = some x → 0 < cap → x.block ≠ w.heap.size) := hne
  clear hne
  go_enter Tryd.func15, Tryd.ntmps15
  go_wp2_with fail
  refine hN.mono ?_
  clear hN
  rintro e w1 ⟨rfl, hc1, hb1⟩
  have hr1 := hr.later hb1
  clear hr
  go_wp2_with fail
  refine (HS w1 hc1 hr1).mono ?_
  clear HS
  rintro e w2 ⟨g, c, ts, rfl, hl, HD, hown, hc2, hg2⟩
  have hr2 := hr1.grown hg2 HNE.out
  have hb2 : Below w.heap.size w w2 := hb1.trans (grown_below hg2 (Nat.le_refl _) hb1.size)
  obtain ⟨n, hn⟩ : ∃ n, ts.length = n := ⟨_, rfl⟩
  have hJ := specJoinFew_any g c ts w2 n (fun t ht => (HD.out t ht).2) hn (by omega) (rdO_own hown)
  rw [hn] at hl ⊢
  clear hn hown HD hc1 hr1 hg2 hb1
  go_wp2_with fail
  refine hJ.mono ?_
  clear hJ
  rintro e w3 ⟨x, rfl, hx, hB3⟩
  have hc3 : Cur w3 w.heap.size a len cap := hc2.same (hB3.block _ hc2.lt)
  have hr3 := hr2.later hB3
  have hb3 : Below w.heap.size w w3 := hb2.trans (hB3.mono hb2.size)
  clear hc2 hr2 hb2 hB3
  go_wp2_with fail
  refine (HB.out 4 w3 hc3 hr3 (by omega) (by omega)).mono ?_
  rintro e w4 ⟨y, hy0, hy1, rfl, hc4, hg4⟩
  have hr4 := hr3.grown hg4 HNE.out
  have hb4 : Below w.heap.size w w4 := hb3.trans (grown_below hg4 (Nat.le_refl _) hb3.size)
  have hp4 := hc4.lt
  clear hc3 hr3 hg4 hb3
  have HQ : Hid (∀ (W : World) (s : ByteArray), Cur W w.heap.size a len cap → IsRow .u8 W a len cap zs → True) := fun _ _ _ _ => trivial
  clear HQ
  rcases (by omega : y = 0 ∨ y = 1 ∨ 2 ≤ y) with rfl | rfl | hy2
  · go_wp2_with fail
    refine (l1Str_any w.heap.size len cap a zs w4.heap.size 0 15 15 drL1 _ (hc4.same (Below.heap_alloc w4 _ _ hp4)) (hr4.grown (World.grownBy_alloc w4 _ (some w.heap.size)) HNE.out) HNE.out (by omega) (by omega) rfl (by omega) (by omega) (list_cellsS w4 drL1 _ _ rfl)).mono ?_
    rintro e w5 ⟨z, hz, rfl, hc5, hg5⟩
    have hz30 := drL1_sz z hz
    have hr5 := (hr4.grown (World.grownBy_alloc w4 _ (some w.heap.size)) HNE.out).grown hg5 HNE.out
    have hb5 : Below w.heap.size w w5 := (hb4.alloc hb4.size _).trans (grown_below hg5 (Nat.le_refl _) (by simp; have := hb4.size; omega))
    have hS5 : (x ++ z).size ≤ 2000 := by rw [ByteArray.size_append]; omega
    clear hz hc4 hr4 hg5 hb4
    go_wp2_with fail
    refine (HO.out w5 hc5 hr5).mono ?_
    rintro e w6 ⟨b, rfl, hc6, hg6⟩
    have hr6 := hr5.grown hg6 HNE.out
    have hb6 : Below w.heap.size w w6 := hb5.trans (grown_below hg6 (Nat.le_refl _) hb5.size)
    clear hc5 hr5 hg6 hb5 HO
    cases b
    · go_wp2_with fail
      go_ret
      exact ⟨_, rfl, by omega, hb6⟩
    · go_wp2_with fail
      go_loopw [4, 5] (fun v i wr => ∃ (k : Nat) (S : ByteArray), k ≤ 2001 ∧ i = .int .i64 k ∧ v = .string S ∧ S.size = k ∧ Cur wr w.heap.size a len cap ∧ IsRow .u8 wr a len cap zs ∧ Below w.heap.size w wr) (fun _ i _ => 2002 - (intOf i).toNat)
      case atStart => exact ⟨0, ⟨#[]⟩, by omega, rfl, rfl, rfl, hc6, hr6, hb6⟩
      case round =>
        obtain ⟨k, S, hk, rfl, rfl, hS, hcw, hrw, hbw⟩ := hrel
        have hC := HB.out 2 wr hcw hrw (by omega) (by omega)
        go_wp2_with fail
        refine hC.mono ?_
        clear hC
        rintro e w7 ⟨q, hq0, hq1, rfl, hc7, hg7⟩
        have hr7 := hrw.grown hg7 HNE.out
        have hb7 : Below w.heap.size w w7 := hbw.trans (grown_below hg7 (Nat.le_refl _) hbw.size)
        clear hcw hrw hg7 hbw hc6 hr6 hb6
        by_cases hlt : (k : Int) < 2000 + q
        · have hS2 : (S ++ (⟨#[46]⟩ : ByteArray)).size = k + 1 := by rw [ByteArray.size_append, hS]; rfl
          go_wp2
          go_roundw
          case rel => exact ⟨k + 1, S ++ ⟨#[46]⟩, by omega, by go_num, rfl, hS2, hc7, hr7, hb7⟩
          case measure => simp [intOf]; omega
        · have hd : decide ((k : Int) < 2000 + q) = false := by simp; omega
          go_wp2
          go_ret
          exact ⟨S, rfl, by omega, hb7⟩
  · go_wp2_with fail
    refine (l1Str_any w.heap.size len cap a zs w4.heap.size 0 5 5 drL2 _ (hc4.same (Below.heap_alloc w4 _ _ hp4)) (hr4.grown (World.grownBy_alloc w4 _ (some w.heap.size)) HNE.out) HNE.out (by omega) (by omega) rfl (by omega) (by omega) (list_cellsS w4 drL2 _ _ rfl)).mono ?_
    rintro e w5 ⟨z, hz, rfl, hc5, hg5⟩
    have hz30 := drL2_sz z hz
    have hr5 := (hr4.grown (World.grownBy_alloc w4 _ (some w.heap.size)) HNE.out).grown hg5 HNE.out
    have hb5 : Below w.heap.size w w5 := (hb4.alloc hb4.size _).trans (grown_below hg5 (Nat.le_refl _) (by simp; have := hb4.size; omega))
    have hS5 : z.size ≤ 2000 := by omega
    clear hz hc4 hr4 hg5 hb4
    go_wp2_with fail
    refine (HO.out w5 hc5 hr5).mono ?_
    rintro e w6 ⟨b, rfl, hc6, hg6⟩
    have hr6 := hr5.grown hg6 HNE.out
    have hb6 : Below w.heap.size w w6 := hb5.trans (grown_below hg6 (Nat.le_refl _) hb5.size)
    clear hc5 hr5 hg6 hb5 HO
    cases b
    · go_wp2_with fail
      go_ret
      exact ⟨_, rfl, by omega, hb6⟩
    · go_wp2_with fail
      go_loopw [4, 5] (fun v i wr => ∃ (k : Nat) (S : ByteArray), k ≤ 2001 ∧ i = .int .i64 k ∧ v = .string S ∧ S.size = k ∧ Cur wr w.heap.size a len cap ∧ IsRow .u8 wr a len cap zs ∧ Below w.heap.size w wr) (fun _ i _ => 2002 - (intOf i).toNat)
      case atStart => exact ⟨0, ⟨#[]⟩, by omega, rfl, rfl, rfl, hc6, hr6, hb6⟩
      case round =>
        obtain ⟨k, S, hk, rfl, rfl, hS, hcw, hrw, hbw⟩ := hrel
        have hC := HB.out 2 wr hcw hrw (by omega) (by omega)
        go_wp2_with fail
        refine hC.mono ?_
        clear hC
        rintro e w7 ⟨q, hq0, hq1, rfl, hc7, hg7⟩
        have hr7 := hrw.grown hg7 HNE.out
        have hb7 : Below w.heap.size w w7 := hbw.trans (grown_below hg7 (Nat.le_refl _) hbw.size)
        clear hcw hrw hg7 hbw hc6 hr6 hb6
        by_cases hlt : (k : Int) < 2000 + q
        · have hS2 : (S ++ (⟨#[46]⟩ : ByteArray)).size = k + 1 := by rw [ByteArray.size_append, hS]; rfl
          go_wp2
          go_roundw
          case rel => exact ⟨k + 1, S ++ ⟨#[46]⟩, by omega, by go_num, rfl, hS2, hc7, hr7, hb7⟩
          case measure => simp [intOf]; omega
        · have hd : decide ((k : Int) < 2000 + q) = false := by simp; omega
          go_wp2
          go_ret
          exact ⟨S, rfl, by omega, hb7⟩
  · have e0 : (y == 0) = false := by rw [beq_eq_false_iff_ne]; omega
    have e1 : (y == 1) = false := by rw [beq_eq_false_iff_ne]; omega
    have hc5 := hc4
    have hr5 := hr4
    have hb5 := hb4
    have hS5 : x.size ≤ 2000 := by omega
    obtain ⟨w5, hw5⟩ : ∃ w5, w5 = w4 := ⟨_, rfl⟩
    subst hw5
    clear hc4 hr4 hb4
    go_wp2_with fail
    refine (HO.out w5 hc5 hr5).mono ?_
    rintro e w6 ⟨b, rfl, hc6, hg6⟩
    have hr6 := hr5.grown hg6 HNE.out
    have hb6 : Below w.heap.size w w6 := hb5.trans (grown_below hg6 (Nat.le_refl _) hb5.size)
    clear hc5 hr5 hg6 hb5 HO
    cases b
    · go_wp2_with fail
      go_ret
      exact ⟨_, rfl, by omega, hb6⟩
    · go_wp2_with fail
      go_loopw [4, 5] (fun v i wr => ∃ (k : Nat) (S : ByteArray), k ≤ 2001 ∧ i = .int .i64 k ∧ v = .string S ∧ S.size = k ∧ Cur wr w.heap.size a len cap ∧ IsRow .u8 wr a len cap zs ∧ Below w.heap.size w wr) (fun _ i _ => 2002 - (intOf i).toNat)
      case atStart => exact ⟨0, ⟨#[]⟩, by omega, rfl, rfl, rfl, hc6, hr6, hb6⟩
      case round =>
        obtain ⟨k, S, hk, rfl, rfl, hS, hcw, hrw, hbw⟩ := hrel
        have hC := HB.out 2 wr hcw hrw (by omega) (by omega)
        go_wp2_with fail
        refine hC.mono ?_
        clear hC
        rintro e w7 ⟨q, hq0, hq1, rfl, hc7, hg7⟩
        have hr7 := hrw.grown hg7 HNE.out
        have hb7 : Below w.heap.size w w7 := hbw.trans (grown_below hg7 (Nat.le_refl _) hbw.size)
        clear hcw hrw hg7 hbw hc6 hr6 hb6
        by_cases hlt : (k : Int) < 2000 + q
        · have hS2 : (S ++ (⟨#[46]⟩ : ByteArray)).size = k + 1 := by rw [ByteArray.size_append, hS]; rfl
          go_wp2
          go_roundw
          case rel => exact ⟨k + 1, S ++ ⟨#[46]⟩, by omega, by go_num, rfl, hS2, hc7, hr7, hb7⟩
          case measure => simp [intOf]; omega
        · have hd : decide ((k : Int) < 2000 + q) = false := by simp; omega
          go_wp2
          go_ret
          exact ⟨S, rfl, by omega, hb7⟩

end Go.Proofs.YtickaplokjdijaaDoor
