/- What putting a text comes to, in the program and in the model: its size's groups, then its bytes. -/
import Derived.Test.YtallldandbeimaaMark
import Derived.Lib.AppendStr
namespace Go.Proofs.Ytallldandbeimaa
open Go.RowKit

/-- A text's bytes as numbers. -/
def nums (s : ByteArray) : List Int := s.data.toList.map fun b => (b.toNat : Int)

theorem nums_cells (s : ByteArray) : Lib.strCells s = (nums s).map (Value.int .u8) := by simp [Lib.strCells, nums]
theorem nums_length (s : ByteArray) : (nums s).length = s.size := by rw [nums, List.length_map, Array.length_toList]; rfl

/-- The bytes of a text behind its size. -/
def put (s : ByteArray) : List Int := enc (code s.size) ++ nums s

set_option maxHeartbeats 1000000 in
theorem appendTexts_one (v : Value) (xs : List Int) (B c0 o0 cc : Nat) (s : ByteArray) (w : World) (hown : w.ownsRow B 5 1 v xs.length (xs.map (Value.int .u8))) (hB : B ≤ w.heap.size)
    (hcell : w.cell? ⟨c0, o0, none⟩ = some (.string s)) (hn : xs.length ≤ 1073741824) (hs : s.size ≤ 1073741824) :
    Calls Try.prog 19 #[v, .slice (some ⟨c0, o0, none⟩) 1 cc] w fun e w' => ∃ v', e = .returned v' ∧
      w'.ownsRow B 5 1 v' (xs ++ put s).length ((xs ++ put s).map (Value.int .u8)) ∧ Below B w w' := by
  obtain ⟨i0, hi, hz0, hz1, hz2⟩ := info_parts Try.info5
  have hl6 := enc_len6 (code s.size) (by have := code_bd s.size; omega)
  go_enter Try.func19, Try.ntmps19
  go_wp2
  go_loopw [0, 9] (fun a i wr => (i = .int .i64 0 ∧ v = a ∧ w = wr) ∨ (i = .int .i64 1 ∧ wr.ownsRow B 5 1 a (xs ++ put s).length ((xs ++ put s).map (Value.int .u8)) ∧ Below B w wr)) (fun _ i _ => 1 - (intOf i).toNat)
  case atStart => exact .inl ⟨rfl, rfl, rfl⟩
  case round =>
    rcases hrel with ⟨rfl, rfl, rfl⟩ | ⟨rfl, hres, hbres⟩
    · go_wp2_with fail
      refine (appendNums_one v xs B w.heap.size 0 1 s.size _ (hown.alloc _) (by simp; omega) (by simp) hn (by omega) (by omega)).mono ?_
      rintro e w1 ⟨v1, rfl, hown1, hbel1⟩
      have hbel : Below B w w1 := ((Below.refl _ w).alloc hB _).trans hbel1
      have hsz := hbel.size
      have hl1 : (xs ++ enc (code s.size)).length ≤ 1073741824 + 6 := by rw [List.length_append]; omega
      obtain ⟨ys, hys⟩ : ∃ ys, xs ++ enc (code s.size) = ys := ⟨_, rfl⟩
      have HY : Hid (xs ++ put s = ys ++ nums s) := by rw [← hys]; show _ = _; rw [put, List.append_assoc]
      rw [hys] at hown1 hl1
      clear hys hown hbel1 hcell
      go_wp2_with (at_builtin; refine Lib.wpList_append_own_string _ rfl (.tmp 18) (.tmp 19) 22 9 rfl B 5 i0 Try.underlying22 Try.underlying9 hi hz0 hz1 hz2 _ _ _ rfl hown1 s rfl (by unfold maxLen; omega) (by omega) (by omega) ?_)
      intro v' w2 hown2 hgrow2 _
      have hbel2 : Below B w w2 := hbel.grown hgrow2 (by omega) (fun k hk => (hown1.lt k hk).1)
      have hown3 : Hid (w2.ownsRow B 5 1 v' (xs ++ put s).length ((xs ++ put s).map (Value.int .u8))) := by
        rw [HY.out, List.length_append, List.map_append, ← nums_cells, nums_length]; exact hown2
      clear hown1 hgrow2 hbel HY hown2
      go_wp2
      go_roundw
      case rel => exact .inr ⟨by go_num, hown3.out, hbel2⟩
      case measure => simp [intOf]
    · go_wp2
      go_ret
      exact ⟨_, rfl, hres, hbres⟩

set_option maxHeartbeats 400000 in
theorem implPutText_row (a : Option Addr) (len cap : Nat) (xs : List Int) (s : ByteArray) (w : World) (h : Rd w a len xs) (hm : len ≤ 1073741824) (hs : s.size ≤ 1073741824)
    (ys : List Int) (hys : xs ++ put s = ys) (L : Nat) (hL : ys.length = L) :
    Calls Try.prog 9 #[.slice a len cap, .string s] w fun e w' => ∃ g c, e = .returned (.slice (some ⟨g, 0, none⟩) L c) ∧ w.heap.size ≤ g ∧
      w'.ownsRow w.heap.size 5 1 (.slice (some ⟨g, 0, none⟩) L c) L (ys.map (Value.int .u8)) ∧ Below w.heap.size w w' := by
  have hlen := h.1
  have hO := ownBytes_any a len cap xs w h hm
  clear h
  subst hlen
  have HP : Hid (0 < L) := by have := enc_len_pos (code s.size); show 0 < L; rw [← hL, ← hys, put, List.length_append, List.length_append]; omega
  have HY : Hid (xs ++ put s = ys) := hys
  have HL : Hid (ys.length = L) := hL
  clear hys hL
  go_enter Try.func9, Try.ntmps9
  go_wp2_with fail
  refine hO.mono ?_
  clear hO
  rintro e w1 ⟨rfl, hown, hbel⟩
  go_wp2_with fail
  refine (appendTexts_one _ xs w.heap.size w1.heap.size 0 1 s _ (hown.alloc _) (by simp; have := hbel.size; omega) (by simp) hm hs).mono ?_
  rintro e w2 ⟨v', rfl, hown2, hbel2⟩
  have hb3 := (hbel.alloc hbel.size _).trans hbel2
  rw [HY.out, HL.out] at hown2
  obtain ⟨g, c, hv, hg⟩ := own_shape hown2 HP.out
  rw [hv] at hown2 ⊢
  clear hbel2 hown hv
  go_wp2
  go_ret
  exact ⟨g, c, rfl, hg, hown2, hb3⟩

end Go.Proofs.Ytallldandbeimaa
