/- What putting a text comes to, in the program and in the model: its size's groups, then its bytes. -/
import Derived.Test.YthjmbbpakidkdaaSPut
import Derived.Lib.AppendStr
namespace Go.Proofs.Ythjmbbpakidkdaa
open Go.RowKit

/-- A text's bytes as numbers. -/
def nums (s : ByteArray) : List Int := s.data.toList.map fun b => (b.toNat : Int)

theorem nums_cells (s : ByteArray) : Lib.strCells s = (nums s).map (Value.int .u8) := by simp [Lib.strCells, nums]
theorem nums_length (s : ByteArray) : (nums s).length = s.size := by rw [nums, List.length_map, Array.length_toList]; rfl

/-- The bytes of a text behind its size. -/
def put (s : ByteArray) : List Int := enc (code s.size) ++ nums s

set_option maxHeartbeats 1000000 in
theorem appendTexts_one (v : Value) (xs : List Int) (B c0 o0 cc : Nat) (s : ByteArray) (w : World) (hown : w.ownsRow B 5 1 v xs.length (xs.map (Value.int .u8))) (hB : B ≤ w.heap.size)
    (hcell : w.cell? ⟨c0, o0, none⟩ = some (.string s)) (hn : xs.length ≤ 1073741824) (hs : s.size ≤ 1073741824) :
    Calls Try.prog 119 #[v, .slice (some ⟨c0, o0, none⟩) 1 cc] w fun e w' => ∃ v', e = .returned v' ∧
      w'.ownsRow B 5 1 v' (xs ++ put s).length ((xs ++ put s).map (Value.int .u8)) ∧ Below B w w' := by
  obtain ⟨i0, hi, hz0, hz1, hz2⟩ := info_parts Try.info5
  have hl6 := enc_len6 (code s.size) (by have := code_bd s.size; omega)
  go_enter Try.func119, Try.ntmps119
  go_wp2
  go_loopw [0, 9] (fun a i wr => (i = .int .i64 0 ∧ v = a ∧ w = wr) ∨ (i = .int .i64 1 ∧ wr.ownsRow B 5 1 a (xs ++ put s).length ((xs ++ put s).map (Value.int .u8)) ∧ Below B w wr)) (fun _ i _ => 1 - (intOf i).toNat)
  case atStart => exact .inl ⟨rfl, rfl, rfl⟩
  case round =>
    rcases hrel with ⟨rfl, rfl, rfl⟩ | ⟨rfl, hres, hbres⟩
    · go_wp2_with fail
      refine (appendNums_one v xs B w.heap.size 0 1 s.size _ (hown.alloc _) (by simp; omega) (by simp) hn (by omega) (by omega)).mono ?_
      rintro e w1 ⟨v1, rfl, hown1, hbel1⟩
      have hbel : Below B w w1 := ((Below.refl _ w).alloc hB _).trans hbel1
      have hsz := hbel.size
      have hl1 : (xs ++ enc (code s.size)).length ≤ 1073741824 + 6 := by rw [List.length_append]; omega
      obtain ⟨ys, hys⟩ : ∃ ys, xs ++ enc (code s.size) = ys := ⟨_, rfl⟩
      have HY : Hid (xs ++ put s = ys ++ nums s) := by rw [← hys]; show _ = _; rw [put, List.append_assoc]
      rw [hys] at hown1 hl1
      clear hys hown hbel1 hcell
      go_wp2_with (at_builtin; refine Lib.wpList_append_own_string _ rfl (.tmp 18) (.tmp 19) 22 9 rfl B 5 i0 Try.underlying22 Try.underlying9 hi hz0 hz1 hz2 _ _ _ rfl hown1 s rfl (by unfold maxLen; omega) (by omega) (by omega) ?_)
      intro v' w2 hown2 hgrow2 _
      have hbel2 : Below B w w2 := hbel.grown hgrow2 (by omega) (fun k hk => (hown1.lt k hk).1)
      have hown3 : Hid (w2.ownsRow B 5 1 v' (xs ++ put s).length ((xs ++ put s).map (Value.int .u8))) := by
        rw [HY.out, List.length_append, List.map_append, ← nums_cells, nums_length]; exact hown2
      clear hown1 hgrow2 hbel HY hown2
      go_wp2
      go_roundw
      case rel => exact .inr ⟨by go_num, hown3.out, hbel2⟩
      case measure => simp [intOf]
    · go_wp2
      go_ret
      exact ⟨_, rfl, hres, hbres⟩

set_option maxHeartbeats 400000 in
theorem specPutText_row (b off n cap : Nat) (zs : List Int) (s : ByteArray) (w : World) (hz : zs.length = n) (hm : n ≤ 1073741824) (hb : b < w.heap.size)
    (hc : ∀ i, i < n → w.cell? ⟨b, off + i, none⟩ = some (.int .u8 (zs.getD i 0))) (hs : s.size ≤ 1073741824)
    (ys : List Int) (hys : zs ++ put s = ys) (L : Nat) (hL : ys.length = L) :
    Calls Try.prog 179 #[.slice (some ⟨b, off, none⟩) n cap, .string s] w fun e w' => ∃ g c, e = .returned (.slice (some ⟨g, 0, none⟩) L c) ∧ w.heap.size ≤ g ∧
      w'.ownsRow w.heap.size 5 1 (.slice (some ⟨g, 0, none⟩) L c) L (ys.map (Value.int .u8)) ∧ Below w.heap.size w w' := by
  obtain ⟨i0, hi, hz0, hz1, hz2⟩ := info_parts Try.info5
  have hl6 := enc_len6 (code s.size) (by have := code_bd s.size; omega)
  have hl1 : (zs ++ enc (code s.size)).length ≤ 1073741824 + 6 := by rw [List.length_append]; omega
  have hP := specPutNum_row b off n cap zs s.size w hz hm hb hc (by omega) (by omega) _ rfl _ rfl
  have HP : Hid (0 < L) := by have := enc_len_pos (code s.size); show 0 < L; rw [← hL, ← hys, put, List.length_append, List.length_append]; omega
  obtain ⟨xs, hxs⟩ : ∃ xs, zs ++ enc (code s.size) = xs := ⟨_, rfl⟩
  have HY : Hid (xs ++ nums s = ys) := by rw [← hys, ← hxs]; show _ = _; rw [put, List.append_assoc]
  have HL : Hid (ys.length = L) := hL
  rw [hxs] at hP hl1
  clear hys hL hxs hc hz
  go_enter Try.func179, Try.ntmps179
  go_wp2_with fail
  refine hP.mono ?_
  clear hP
  rintro e w1 ⟨g1, c1, rfl, hg1, hown1, hbel1⟩
  have hsz := hbel1.size
  go_wp2_with (at_builtin; refine Lib.wpList_append_own_string _ rfl (.tmp 8) (.tmp 9) 22 9 rfl w.heap.size 5 i0 Try.underlying22 Try.underlying9 hi hz0 hz1 hz2 _ _ _ rfl hown1 s rfl (by unfold maxLen; omega) (by omega) (by omega) ?_)
  intro v' w2 hown2 hgrow2 _
  have hbel2 : Below w.heap.size w w2 := hbel1.grown hgrow2 (by omega) (fun k hk => (hown1.lt k hk).1)
  have hown3 : w2.ownsRow w.heap.size 5 1 v' L (ys.map (Value.int .u8)) := by
    have e : xs.length + s.size = L := by rw [← HL.out, ← HY.out, List.length_append, nums_length]
    rw [← HY.out, List.map_append, ← nums_cells, ← e]; exact hown2
  obtain ⟨g, c, hv, hg⟩ := own_shape hown3 HP.out
  rw [hv] at hown3 ⊢
  clear hown1 hgrow2 hbel1 hown2 hv
  go_wp2
  go_ret
  exact ⟨g, c, rfl, hg, hown3, hbel2⟩

end Go.Proofs.Ythjmbbpakidkdaa
