/- Data of the later chapters: terms as parts of structs, lists of numbers; the law's own measure, copy and comparison of them. -/
import Derived.Test.YtgmddookohkhlaaRow
import Derived.Test.YtgmddookohkhlaaRowC
import Derived.Test.YtgmddookohkhlaaAft
import Derived.Test.YtgmddookohkhlaaEqT
import Derived.Test.YtgmddookohkhlaaXRead0
import Derived.BigQuiet
namespace Go.Proofs.Ytgmddookohkhlaa
open Go.RowKit Go.ChangeShapes Go.WideShapes Go.Joins Go.Deep
set_option linter.unusedVariables false

theorem RowOf.sl {α : Type} {k : Nat} {R : World → List Value → α → Prop} {w : World} {v : Value} {xs : List α} (h : RowOf k R w v xs) : ∃ a l c, v = .slice a l c := by
  obtain ⟨a, c, e, _⟩ := h
  exact ⟨a, _, c, e⟩
theorem OwnRow.sl {α : Type} {k : Nat} {T : TypeId} {O : World → List Value → α → List Nat → Prop} {w : World} {v : Value} {xs : List α} {fp : List Nat} (h : OwnRow k T O w v xs fp) : ∃ a l c, v = .slice a l c := by
  rcases h with ⟨_, _, a, c, rfl⟩ | ⟨g, c, cur, fps, rfl, _⟩
  · exact ⟨_, _, _, rfl⟩
  · exact ⟨_, _, _, rfl⟩

theorem RdL.len1 {d : Nat} {w : World} {v : Value} {ts : List (Tm (d + 1))} (h : RdL (d + 1) w v ts) : ∃ a c, v = .slice a ts.length c := by
  obtain ⟨a, c, e, _⟩ := h
  exact ⟨a, c, e⟩

/-- A term as a part of something. -/
def TmR (d : Nat) (w : World) (vs : List Value) (t : Tm (d + 1)) : Prop := ∃ lv, vs = [.int .i64 t.K, .int .i64 t.N, .string t.S, lv] ∧ RdL d w lv t.L
def TmO (d : Nat) (w : World) (vs : List Value) (t : Tm (d + 1)) (fp : List Nat) : Prop := ∃ lv, vs = [.int .i64 t.K, .int .i64 t.N, .string t.S, lv] ∧ OwnL d w lv t.L fp
def WfTm (d : Nat) (t : Tm (d + 1)) : Prop := I64 t.K ∧ I64 t.N ∧ t.S.size ≤ maxLen ∧ WfL d t.L
def szTm (d : Nat) (t : Tm (d + 1)) : Nat := t.S.size + szL d t.L
def ShTerm (vs : List Value) : Prop := ∃ (i0 i1 : Int) (s2 : ByteArray) (a3 : Option Addr) (l3 c3 : Nat), vs = [.int .i64 i0, .int .i64 i1, .string s2, .slice a3 l3 c3]

theorem TmR.lasts (d : Nat) : Lasts (TmR d) := by
  rintro w w' vs b ⟨lv, rfl, h⟩ hb
  exact ⟨lv, rfl, h.later hb⟩
theorem TmO.lasts (d : Nat) : LastsO (TmO d) := by
  rintro w w' vs b fp ⟨lv, rfl, h⟩ hb
  exact ⟨lv, rfl, h.frame hb⟩
theorem TmO.reads (d : Nat) : Reads (TmO d) (TmR d) := by
  rintro w vs b fp ⟨lv, rfl, h⟩
  exact ⟨lv, rfl, h.rd⟩
theorem TmR.shape (d : Nat) : ∀ w vs b, TmR d w vs b → ShTerm vs := by
  rintro w vs b ⟨lv, rfl, h⟩
  obtain ⟨a, l, c, rfl⟩ := h.shape
  exact ⟨_, _, _, _, _, _, rfl⟩
theorem TmO.shape (d : Nat) : ∀ w vs b fp, TmO d w vs b fp → ShTerm vs := fun w vs b fp h => TmR.shape d w vs b (TmO.reads d w vs b fp h)

theorem szTm_any (d : Nat) : SzEl 76 (TmR d) (WfTm d) (szTm d) := by
  rintro vs x left w ⟨lv, rfl, h⟩ ⟨_, _, w3, w4⟩ h0 h1
  exact szTerm_of d (szTermS_any d) x.K x.N x.S lv x.L left w h w4 w3 h0 h1
theorem toTm_any (d : Nat) : ToEl 78 (TmR d) (TmO d) (WfTm d) (szTm d) := by
  rintro vs x w ⟨lv, rfl, h⟩ ⟨_, _, w3, w4⟩ hz
  have hz' : x.S.size + szL d x.L ≤ 1048576 := hz
  refine (toTerm_of d (toTermS_any d) x.K x.N x.S lv x.L w h w4 (by omega)).mono ?_
  rintro e w' ⟨a, l, c, fp, rfl, ho, hf, hb⟩
  exact ⟨[.int .i64 x.K, .int .i64 x.N, .string x.S, .slice a l c], fp, rfl, ⟨_, rfl, ho⟩, hf, hb⟩
theorem eqTm_any (d : Nat) : EqEl 85 (TmR d) (WfTm d) := by
  rintro vs1 vs2 x w ⟨lv, rfl, h⟩ ⟨lv', rfl, h'⟩ ⟨_, _, w3, w4⟩
  exact eqTerm_of d (eqTermS_any d) x.K x.N x.S lv lv' x.L w h h' w4

theorem OwnL.sl : ∀ {d : Nat} {w : World} {v : Value} {ts : List (Tm d)} {fp : List Nat}, OwnL d w v ts fp → ∃ a l c, v = .slice a l c := fun h => h.rd.shape

/-- Numbers. -/
def InR (w : World) (vs : List Value) (n : Int) : Prop := vs = [.int .i64 n]
def InO (w : World) (vs : List Value) (n : Int) (fp : List Nat) : Prop := vs = [.int .i64 n] ∧ fp = []
theorem InR.lasts : Lasts InR := fun _ _ _ _ h _ => h
theorem InO.lasts : LastsO InO := fun _ _ _ _ _ h _ => h
theorem InO.reads : Reads InO InR := fun _ _ _ _ h => h.1
def szI (n : Int) : Nat := 0

def TellI (w : World) (v : Value) (l : List Int) : Prop := ∃ a c, v = .slice a l.length c ∧ ∀ (i : Nat) (s : Int), l[i]? = some s → ∃ b o, a = some ⟨b, o, none⟩ ∧ w.cell? ⟨b, o + i, none⟩ = some (.int .i64 s)
theorem row_tellI {w : World} {v : Value} {l : List Int} (h : RowOf 1 InR w v l) : TellI w v l := by
  obtain ⟨a, c, rfl, h1⟩ := h
  refine ⟨a, c, rfl, fun i s hs => ?_⟩
  obtain ⟨b, o, vs, h2, h3, h4, rfl⟩ := h1 i s hs
  have := h4 0 _ rfl
  rw [Nat.mul_one, Nat.add_zero] at this
  exact ⟨b, o, h2, this⟩

theorem szI_sum (xs : List Int) : szRow szI xs = xs.length := by
  unfold szRow
  have : (xs.map szI).sum = 0 := by
    induction xs with
    | nil => rfl
    | cons x xs ih => simp [szI, ih]
  omega

set_option maxHeartbeats 1000000 in
theorem szInts_any : SzLs 27 1 InR I64 szI := by
  intro v xs left w hr hw h0 h1
  obtain ⟨a, c, rfl, hel⟩ := hr
  rw [szI_sum]
  have hm : xs.length ≤ 9223372036854775807 := hw.1
  obtain ⟨len, hlen⟩ : ∃ len, xs.length = len := ⟨_, rfl⟩
  rw [hlen] at hm ⊢
  clear hel hw hlen
  by_cases hlt : left < len
  · have HF : Hid ((-1 : Int) = lft left len) := by show _ = _; unfold lft; rw [if_neg (by omega)]
    go_enter Try.func27, Try.ntmps27
    go_wp2
    go_ret
    exact ⟨tret1 HF.out, Below.refl _ _⟩
  · have HF : Hid (left - (len : Int) = lft left len) := by show _ = _; unfold lft; rw [if_pos (by omega)]
    go_enter Try.func27, Try.ntmps27
    go_wp2
    go_ret
    exact ⟨tret1 HF.out, Below.refl _ _⟩

theorem Try.infoInt : (Try.prog.info? 3).map (fun i => (i.zero, i.size, i.bytes)) = some (some (.int .i64 0), 1, 8) := by kernel_rfl

set_option maxHeartbeats 2000000 in
theorem toInts_any : ToLs 31 1 3 InR InO I64 szI := by
  obtain ⟨i0, hi, hz0, hz1, hz2⟩ := info_parts Try.infoInt
  intro v xs w hr hw hz
  obtain ⟨a, c, rfl, hel⟩ := row_tellI hr
  have HE : Hid (∀ (i : Nat) (s : Int), xs[i]? = some s → ∃ b o, a = some ⟨b, o, none⟩ ∧ w.cell? ⟨b, o + i, none⟩ = some (.int .i64 s)) := hel
  obtain ⟨len, hlen⟩ : ∃ len, xs.length = len := ⟨_, rfl⟩
  have HLN : Hid (xs.length = len) := hlen
  have hm : len ≤ 1048576 := by have := sumP_all szI xs; omega
  rw [hlen]
  clear hlen hel hw hz hr
  go_enter Try.func31, Try.ntmps31
  go_wp2_with (at_make; refine wpList_make_full _ rfl _ _ 23 rfl w.heap.size 3 i0 _ 1 Try.underlying23 hi hz0 hz1 _ _ _ _ len rfl rfl rfl rfl (by rw [hz2]; omega) (by unfold maxLen; omega) (Nat.le_refl _) ?_)
  intro w1 hown hgrow
  have hbel : Below w.heap.size w w1 := (Below.refl _ _).grown hgrow (Nat.le_refl _) (fun _ h => by cases h)
  obtain ⟨cur0, hc0, hs0⟩ : ∃ cur, w1.heap[w.heap.size]? = some (.cells cur 3 (0, 0)) ∧ cur.size = len * 1 := by
    rcases hown.2 with ⟨h', _⟩ | ⟨g', cap', cur, h', _, hg, _, _, hs, _⟩
    · simp at h'
    · simp only [Value.slice.injEq, Option.some.injEq, Addr.mk.injEq, and_true, true_and] at h'
      obtain ⟨rfl, rfl⟩ := h'
      exact ⟨cur, hg, hs⟩
  clear hown hgrow
  go_wp2
  go_loopw [4] (fun i wr => ∃ (k : Nat) (cur : Array Value) (fps : List (List Nat)), k ≤ len ∧ i = .int .i64 k ∧ wr.heap[w.heap.size]? = some (.cells cur 3 (0, 0)) ∧ cur.size = len * 1 ∧ fps.length = k ∧ fps.flatten.Nodup ∧ (∀ g ∈ fps.flatten, w.heap.size < g ∧ g < wr.heap.size) ∧ Below w.heap.size w wr ∧ Hid (DoneRow 1 InO xs k wr cur fps)) (fun i _ => len - (intOf i).toNat)
  case atStart => exact ⟨0, cur0, [], Nat.zero_le _, rfl, hc0, hs0, rfl, by simp, by simp, hbel, fun i t hi => by omega⟩
  case round =>
    clear hc0 hs0 hbel
    obtain ⟨k, cur, fps, hk, rfl, hh, hcs, hfl, hnd, hfr, hb, HD⟩ := hrel
    have hwz : w.heap.size < wr.heap.size := lt_row hh
    by_cases hkl : k < len
    · obtain ⟨t, ht⟩ : ∃ t, xs[k]? = some t := ⟨_, List.getElem?_eq_getElem (by rw [HLN.out]; exact hkl)⟩
      obtain ⟨b, o, rfl, f0⟩ := HE.out k t ht
      have f1 := cell_later hb f0
      have hsz : k < cur.size := by omega
      have c0 : wr.cell? ⟨w.heap.size, k, none⟩ = some cur[k] := by rw [cell_of_row wr _ _ _ _ _ hh]; exact Array.getElem?_eq_getElem hsz
      have z0 : wr.frozen? ⟨w.heap.size, k, none⟩ = false := frozen_of_row wr _ _ _ _ hh
      obtain ⟨S1, S2, S3, S4, S5, S6, S7⟩ := row_step InO.lasts hkl hcs hfl hnd hfr hwz hb (Below.refl _ _) HD.out ht (vs := [.int .i64 t]) rfl ⟨rfl, rfl⟩ ⟨List.nodup_nil, fun g hg => by cases hg⟩ hh
      have e1 : setL wr w.heap.size (k * 1) [.int .i64 t] = wr.setCell ⟨w.heap.size, k, none⟩ (.int .i64 t) := by rw [Nat.mul_one]; rfl
      rw [e1] at S1 S5 S6 S7
      have HS : Hid ((_ ∧ _ ∧ _ ∧ _ ∧ _ ∧ _) ∧ _) := ⟨⟨S1, S2, S3, S4, S5, S6⟩, S7⟩
      have hkl' : (k : Int) < (len : Int) := by omega
      clear S1 S2 S3 S4 S5 S6 S7 hh hcs hfl hnd hfr hb HD f0 ht e1
      go_wp2
      go_roundw
      case rel => exact ⟨k + 1, _, _, by omega, by go_num, HS.out.1.1, HS.out.1.2.1, HS.out.1.2.2.1, HS.out.1.2.2.2.1, HS.out.1.2.2.2.2.1, HS.out.1.2.2.2.2.2, HS.out.2⟩
      case measure => simp [intOf]; omega
    · obtain rfl : k = len := by omega
      have HO := row_done (T := 3) (w := w) HLN.out hfl hnd hfr hwz hh HD.out
      have HFF : Hid _ := HO
      clear HO hh hcs hfl hnd hfr HD
      go_wp2
      go_ret
      exact ⟨_, _, _, _, rfl, HFF.out.1, HFF.out.2, hb⟩

set_option maxHeartbeats 1000000 in
theorem eqInts_any : EqLs 23 1 InR I64 := by
  intro v1 v2 l w h1 h2 hw
  have hm : l.length ≤ 9223372036854775807 := hw.1
  obtain ⟨a1, c1, rfl, e1⟩ := row_tellI h1
  obtain ⟨a2, c2, rfl, e2⟩ := row_tellI h2
  have HE1 : Hid (∀ (i : Nat) (s : Int), l[i]? = some s → ∃ b o, a1 = some ⟨b, o, none⟩ ∧ w.cell? ⟨b, o + i, none⟩ = some (.int .i64 s)) := e1
  have HE2 : Hid (∀ (i : Nat) (s : Int), l[i]? = some s → ∃ b o, a2 = some ⟨b, o, none⟩ ∧ w.cell? ⟨b, o + i, none⟩ = some (.int .i64 s)) := e2
  obtain ⟨len, hlen⟩ : ∃ len, l.length = len := ⟨_, rfl⟩
  have HLN : Hid (l.length = len) := hlen
  rw [hlen] at hm ⊢
  clear hlen e1 e2 h1 h2 hw
  go_enter Try.func23, Try.ntmps23
  go_wp2_with fail
  go_loopw [5] (fun i wr => ∃ k : Nat, k ≤ len ∧ i = .int .i64 k ∧ Below w.heap.size w wr) (fun i _ => len - (intOf i).toNat)
  case atStart => exact ⟨0, Nat.zero_le _, rfl, Below.refl _ _⟩
  case round =>
    obtain ⟨k, hk, rfl, hb⟩ := hrel
    by_cases hkl : k < len
    · obtain ⟨s, hs⟩ : ∃ s, l[k]? = some s := ⟨_, List.getElem?_eq_getElem (by rw [HLN.out]; exact hkl)⟩
      obtain ⟨b, o, rfl, f0⟩ := HE1.out k s hs
      obtain ⟨b2, o2, rfl, g0⟩ := HE2.out k s hs
      have f1 := cell_later hb f0
      have g1 := cell_later hb g0
      have hkl' : (k : Int) < (len : Int) := by omega
      clear f0 g0 hs
      go_wp2_with fail
      go_region
      all_goals
        have hb2 : Below w.heap.size w wr.drew := hb.drew
        clear hb
        go_wp2
        go_roundw
        case rel => exact ⟨k + 1, by omega, by go_num, hb2⟩
        case measure => simp [intOf]; omega
    · go_wp2
      go_ret
      exact ⟨rfl, hb⟩

theorem lft_neg (l : Int) (n : Nat) (h : lft l n < 0) : lft l n = -1 := by
  unfold lft at h ⊢
  by_cases q : (n : Int) ≤ l
  · rw [if_pos q] at h; omega
  · rw [if_neg q]

theorem Try.cellsInts : Try.prog.cellsOf 23 = 1 := by kernel_rfl
theorem Try.cells4 : Try.prog.cellsOf 4 = 1 := by kernel_rfl

section
variable {H : Type} {enc : TypeId × Value → H} {W : World} {base : Nat} {spare : Nat → Bool} {held : Bool}

theorem read_ints {m : Nat} {v : Value} {x : DataW H × List MemPlace} (h : DataW.trod enc Try.prog W base spare held m 23 [v] = some x) : ∃ l : List Int, RowOf 1 InR W v l ∧ WfRow I64 l :=
  read_row (R := InR) (P := I64) Try.underlying23 Try.cells3 (by omega) (fun n hn cs x hx hl => by
    obtain ⟨c, rfl⟩ : ∃ c, cs = [c] := by
      match cs, hl with
      | [c], _ => exact ⟨c, rfl⟩
    obtain ⟨t, e, _, ht⟩ := DataW.trod_int Try.underlying3 hx
    simp only [List.cons.injEq, and_true] at e
    subst e
    exact ⟨t, rfl, bounds_i64 ht⟩) h

theorem read_tm {m d : Nat} (hd : m ≤ d) {cs : List Value} {x : DataW H × List MemPlace} (h : DataW.trod enc Try.prog W base spare held m 77 cs = some x) (hl : cs.length = 4) : ∃ t : Tm (d + 1), TmR d W cs t ∧ WfTm d t := by
  obtain ⟨c0, c1, c2, c3, rfl⟩ : ∃ c0 c1 c2 c3, cs = [c0, c1, c2, c3] := by
    match cs, hl with
    | [c0, c1, c2, c3], _ => exact ⟨c0, c1, c2, c3, rfl⟩
  obtain ⟨m', k, l, s, y, rfl, rfl, rfl, rfl, hk, hn, hs, h3⟩ := read_four h
  obtain ⟨ts, hT, wT⟩ := read_terms m' d (by omega) c3 y h3
  exact ⟨((k, l, s, ts) : Int × Int × ByteArray × List (Tm d)), ⟨_, rfl, hT⟩, hk, hn, hs, wT⟩
end

end Go.Proofs.Ytgmddookohkhlaa
