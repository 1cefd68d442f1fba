/- What the program's appending of one number comes to: its groups behind the bytes, in place or in new memory. -/
import Derived.Test.YthjmbbpakidkdaaPut
namespace Go.Proofs.Ythjmbbpakidkdaa
open Go.RowKit

theorem one_new (w : World) (x : Value) (t : TypeId) : ∀ j u, [x][j]? = some u → (w.alloc (.cells #[x] t)).cell? ((⟨w.heap.size, 0, none⟩ : Addr).add j) = some u := by
  intro j u hj
  match j, hj with
  | 0, hj => simp at hj; subst hj; simp [Addr.add]

theorem snoc_map (xs : List Int) (x : Int) : xs.map (Value.int .u8) ++ [Value.int .u8 x] = (xs ++ [x]).map (Value.int .u8) := by simp

set_option maxHeartbeats 1000000 in
theorem appendNums_one (v : Value) (xs : List Int) (B c0 o0 cc : Nat) (N : Int) (w : World) (hown : w.ownsRow B 5 1 v xs.length (xs.map (Value.int .u8))) (hB : B ≤ w.heap.size)
    (hcell : w.cell? ⟨c0, o0, none⟩ = some (.int .i64 N)) (hn : xs.length ≤ 1073741824) (h0 : -9223372036854775808 ≤ N) (h1 : N ≤ 9223372036854775807) :
    Calls Try.prog 118 #[v, .slice (some ⟨c0, o0, none⟩) 1 cc] w fun e w' => ∃ v', e = .returned v' ∧
      w'.ownsRow B 5 1 v' (xs ++ enc (code N)).length ((xs ++ enc (code N)).map (Value.int .u8)) ∧ Below B w w' := by
  obtain ⟨i0, hi, hz0, hz1, hz2⟩ := info_parts Try.info5
  have hcb := code_bd N
  have hl6 := enc_len6 (code N) (by omega)
  obtain ⟨C, hC⟩ : ∃ C, C = code N := ⟨_, rfl⟩
  have hnc := numCode_any N w h0 h1
  rw [← hC] at hcb hl6 hnc ⊢
  clear hC
  go_enter Try.func118, Try.ntmps118
  go_wp2
  go_loopw [0, 10] (fun a i wr => (i = .int .i64 0 ∧ v = a ∧ w = wr) ∨ (i = .int .i64 1 ∧ wr.ownsRow B 5 1 a (xs ++ enc C).length ((xs ++ enc C).map (Value.int .u8)) ∧ Below B w wr)) (fun _ i _ => 1 - (intOf i).toNat)
  case atStart => exact .inl ⟨rfl, rfl, rfl⟩
  case round =>
    rcases hrel with ⟨rfl, rfl, rfl⟩ | ⟨rfl, hres, hbres⟩
    · go_wp2_with fail
      refine hnc.mono ?_
      clear hnc
      rintro e w' ⟨rfl, rfl⟩
      go_wp2_with fail
      go_loopw [0, 7] (fun a c wr => ∃ (m : Int) (cur : List Int), 0 ≤ m ∧ m ≤ 2000000000000 ∧ c = .int .i64 m ∧ wr.ownsRow B 5 1 a cur.length (cur.map (Value.int .u8)) ∧ Below B w' wr ∧ Hid (cur ++ enc m = xs ++ enc C)) (fun _ c _ => (intOf c).toNat)
      case atStart => exact ⟨C, xs, hcb.1, hcb.2, rfl, hown, Below.refl _ _, rfl⟩
      case round =>
        obtain ⟨m, cur, hm0, hm1, rfl, hown1, hbel1, HE⟩ := hrel
        have hcl : cur.length ≤ 1073741824 + 6 := by
          have e := congrArg List.length HE.out
          have := enc_len_pos m
          simp only [List.length_append] at e; omega
        have hsz : B ≤ wr.heap.size := Nat.le_trans hB hbel1.size
        clear hown hcell
        by_cases hgt : 127 < m
        · go_wp2_with (at_builtin; refine wpList_append_own _ rfl (.tmp 18) (.tmp 23) 22 rfl B 5 i0 (.int .u8 0) 1 1 Try.underlying22 hi hz0 hz1 hz2 rfl (by decide) _ _ _ rfl (hown1.alloc _) ⟨wr.heap.size, 0, none⟩ 1 1 [.int .u8 (m % 128 + 128)] rfl rfl ?c1 ?c2 ?c3 ?c4 ?c5 ?_)
          case c1 => exact one_new _ _ _
          case c2 => intro u hu; simp at hu; subst hu; rfl
          case c3 => unfold maxLen; omega
          case c4 => omega
          case c5 => simp; omega
          intro v' w2 hown2 hgrow2 _
          rw [snoc_map] at hown2
          have hbel2 : Below B w' w2 := (hbel1.alloc hsz _).grown hgrow2 (by simp; omega) (fun k hk => (hown1.lt k hk).1)
          have hE2 : Hid ((cur ++ [m % 128 + 128]) ++ enc (m / 128) = xs ++ enc C) := by have := HE.out; rw [enc_go m hgt] at this; show _ = _; rw [← this]; simp
          clear hown1 hgrow2 hbel1 HE hcb hl6
          go_wp2
          go_roundw
          case rel => exact ⟨m / 128, cur ++ [m % 128 + 128], by omega, by omega, by go_num, by simpa using hown2, hbel2, hE2⟩
          case measure => simp [intOf]; omega
        · have hle : m ≤ 127 := by omega
          go_wp2_with (at_builtin; refine wpList_append_own _ rfl (.tmp 27) (.tmp 30) 22 rfl B 5 i0 (.int .u8 0) 1 1 Try.underlying22 hi hz0 hz1 hz2 rfl (by decide) _ _ _ rfl (hown1.alloc _) ⟨wr.heap.size, 0, none⟩ 1 1 [.int .u8 m] rfl rfl ?d1 ?d2 ?d3 ?d4 ?d5 ?_)
          case d2 => first | rfl | (intro u hu; simp at hu; subst hu; rfl)
          case d3 => unfold maxLen; omega
          case d4 => omega
          case d5 => first | omega | (simp; omega)
          intro v' w2 hown2 hgrow2 _
          rw [snoc_map] at hown2
          have hbel2 : Below B w' w2 := (hbel1.alloc hsz _).grown hgrow2 (by simp; omega) (fun k hk => (hown1.lt k hk).1)
          have hE2 : Hid (cur ++ [m] = xs ++ enc C) := by have := HE.out; rw [enc_end m hle] at this; exact this
          have hown3 : Hid (w2.ownsRow B 5 1 v' (xs ++ enc C).length ((xs ++ enc C).map (Value.int .u8))) := by rw [← hE2.out]; show w2.ownsRow _ _ _ _ _ _; simpa using hown2
          clear hown1 hgrow2 hbel1 HE hcb hl6 hE2 hown2
          go_wp2
          go_roundw
          case rel => exact .inr ⟨by go_num, hown3.out, hbel2⟩
          case measure => simp [intOf]
    · go_wp2
      go_ret
      exact ⟨_, rfl, hres, hbres⟩

end Go.Proofs.Ythjmbbpakidkdaa
