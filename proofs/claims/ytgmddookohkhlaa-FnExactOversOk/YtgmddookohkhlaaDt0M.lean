/- Data of the later chapters: terms as parts of structs, lists of numbers; the law's own measure, copy and comparison of them. -/
import Derived.Test.YtgmddookohkhlaaTmM
import Derived.Test.YtgmddookohkhlaaOkM
import Derived.Test.YtgmddookohkhlaaTReadM
import Derived.BigQuiet
namespace Go.Proofs.Ytgmddookohkhlaa
open Go.RowKit Go.ChangeShapes Go.WideShapes Go.Joins Go.Deep
set_option linter.unusedVariables false

theorem RowOf.sl {α : Type} {k : Nat} {R : World → List Value → α → Prop} {w : World} {v : Value} {xs : List α} (h : RowOf k R w v xs) : ∃ a l c, v = .slice a l c := by
  obtain ⟨a, c, e, _⟩ := h
  exact ⟨a, _, c, e⟩
theorem OwnRow.sl {α : Type} {k : Nat} {T : TypeId} {O : World → List Value → α → List Nat → Prop} {w : World} {v : Value} {xs : List α} {fp : List Nat} (h : OwnRow k T O w v xs fp) : ∃ a l c, v = .slice a l c := by
  rcases h with ⟨_, _, a, c, rfl⟩ | ⟨g, c, cur, fps, rfl, _⟩
  · exact ⟨_, _, _, rfl⟩
  · exact ⟨_, _, _, rfl⟩

theorem RdL.len1 {d : Nat} {w : World} {v : Value} {ts : List (Tm (d + 1))} (h : RdL (d + 1) w v ts) : ∃ a c, v = .slice a ts.length c := by
  obtain ⟨a, c, e, _⟩ := h
  exact ⟨a, c, e⟩

/-- A term as a part of something. -/
def TmR (d : Nat) (w : World) (vs : List Value) (t : Tm (d + 1)) : Prop := ∃ lv, vs = [.int .i64 t.K, .int .i64 t.N, .string t.S, lv] ∧ RdL d w lv t.L
def TmO (d : Nat) (w : World) (vs : List Value) (t : Tm (d + 1)) (fp : List Nat) : Prop := ∃ lv, vs = [.int .i64 t.K, .int .i64 t.N, .string t.S, lv] ∧ OwnL d w lv t.L fp
def WfTm (d : Nat) (t : Tm (d + 1)) : Prop := I64 t.K ∧ I64 t.N ∧ t.S.size ≤ maxLen ∧ WfL d t.L
def szTm (d : Nat) (t : Tm (d + 1)) : Nat := t.S.size + szL d t.L
def ShTerm (vs : List Value) : Prop := ∃ (i0 i1 : Int) (s2 : ByteArray) (a3 : Option Addr) (l3 c3 : Nat), vs = [.int .i64 i0, .int .i64 i1, .string s2, .slice a3 l3 c3]

theorem TmR.lasts (d : Nat) : Lasts (TmR d) := by
  rintro w w' vs b ⟨lv, rfl, h⟩ hb
  exact ⟨lv, rfl, h.later hb⟩
theorem TmO.lasts (d : Nat) : LastsO (TmO d) := by
  rintro w w' vs b fp ⟨lv, rfl, h⟩ hb
  exact ⟨lv, rfl, h.frame hb⟩
theorem TmO.reads (d : Nat) : Reads (TmO d) (TmR d) := by
  rintro w vs b fp ⟨lv, rfl, h⟩
  exact ⟨lv, rfl, h.rd⟩
theorem TmR.shape (d : Nat) : ∀ w vs b, TmR d w vs b → ShTerm vs := by
  rintro w vs b ⟨lv, rfl, h⟩
  obtain ⟨a, l, c, rfl⟩ := h.shape
  exact ⟨_, _, _, _, _, _, rfl⟩
theorem TmO.shape (d : Nat) : ∀ w vs b fp, TmO d w vs b fp → ShTerm vs := fun w vs b fp h => TmR.shape d w vs b (TmO.reads d w vs b fp h)

theorem szTm_any (d : Nat) : SzEl 76 (TmR d) (WfTm d) (szTm d) := by
  rintro vs x left w ⟨lv, rfl, h⟩ ⟨_, _, w3, w4⟩ h0 h1
  exact szTerm_of d (szTermS_any d) x.K x.N x.S lv x.L left w h w4 w3 h0 h1
theorem toTm_any (d : Nat) : ToEl 78 (TmR d) (TmO d) (WfTm d) (szTm d) := by
  rintro vs x w ⟨lv, rfl, h⟩ ⟨_, _, w3, w4⟩ hz
  have hz' : x.S.size + szL d x.L ≤ 1048576 := hz
  refine (toTerm_of d (toTermS_any d) x.K x.N x.S lv x.L w h w4 (by omega)).mono ?_
  rintro e w' ⟨a, l, c, fp, rfl, ho, hf, hb⟩
  exact ⟨[.int .i64 x.K, .int .i64 x.N, .string x.S, .slice a l c], fp, rfl, ⟨_, rfl, ho⟩, hf, hb⟩
theorem eqTm_any (d : Nat) : EqEl 85 (TmR d) (WfTm d) := by
  rintro vs1 vs2 x w ⟨lv, rfl, h⟩ ⟨lv', rfl, h'⟩ ⟨_, _, w3, w4⟩
  exact eqTerm_of d (eqTermS_any d) x.K x.N x.S lv lv' x.L w h h' w4

theorem OwnL.sl : ∀ {d : Nat} {w : World} {v : Value} {ts : List (Tm d)} {fp : List Nat}, OwnL d w v ts fp → ∃ a l c, v = .slice a l c := fun h => h.rd.shape

/-- Numbers. -/
def InR (w : World) (vs : List Value) (n : Int) : Prop := vs = [.int .i64 n]
def InO (w : World) (vs : List Value) (n : Int) (fp : List Nat) : Prop := vs = [.int .i64 n] ∧ fp = []
theorem InR.lasts : Lasts InR := fun _ _ _ _ h _ => h
theorem InO.lasts : LastsO InO := fun _ _ _ _ _ h _ => h
theorem InO.reads : Reads InO InR := fun _ _ _ _ h => h.1
def szI (n : Int) : Nat := 0

def TellI (w : World) (v : Value) (l : List Int) : Prop := ∃ a c, v = .slice a l.length c ∧ ∀ (i : Nat) (s : Int), l[i]? = some s → ∃ b o, a = some ⟨b, o, none⟩ ∧ w.cell? ⟨b, o + i, none⟩ = some (.int .i64 s)
theorem row_tellI {w : World} {v : Value} {l : List Int} (h : RowOf 1 InR w v l) : TellI w v l := by
  obtain ⟨a, c, rfl, h1⟩ := h
  refine ⟨a, c, rfl, fun i s hs => ?_⟩
  obtain ⟨b, o, vs, h2, h3, h4, rfl⟩ := h1 i s hs
  have := h4 0 _ rfl
  rw [Nat.mul_one, Nat.add_zero] at this
  exact ⟨b, o, h2, this⟩

theorem szI_sum (xs : List Int) : szRow szI xs = xs.length := by
  unfold szRow
  have : (xs.map szI).sum = 0 := by
    induction xs with
    | nil => rfl
    | cons x xs ih => simp [szI, ih]
  omega

set_option maxHeartbeats 1000000 in
theorem szInts_any : SzLs 27 1 InR I64 szI := by
  intro v xs left w hr hw h0 h1
  obtain ⟨a, c, rfl, hel⟩ := hr
  rw [szI_sum]
  have hm : xs.length ≤ 9223372036854775807 := hw.1
  obtain ⟨len, hlen⟩ : ∃ len, xs.length = len := ⟨_, rfl⟩
  rw [hlen] at hm ⊢
  clear hel hw hlen
  by_cases hlt : left < len
  · have HF : Hid ((-1 : Int) = lft left len) := by show _ = _; unfold lft; rw [if_neg (by omega)]
    go_enter Try.func27, Try.ntmps27
    go_wp2
    go_ret
    exact ⟨tret1 HF.out, Below.refl _ _⟩
  · have HF : Hid (left - (len : Int) = lft left len) := by show _ = _; unfold lft; rw [if_pos (by omega)]
    go_enter Try.func27, Try.ntmps27
    go_wp2
    go_ret
    exact ⟨tret1 HF.out, Below.refl _ _⟩

theorem Try.infoInt : (Try.prog.info? 3).map (fun i => (i.zero, i.size, i.bytes)) = some (some (.int .i64 0), 1, 8) := by kernel_rfl

set_option maxHeartbeats 2000000 in
theorem toInts_any : ToLs 31 1 3 InR InO I64 szI := by
  obtain ⟨i0, hi, hz0, hz1, hz2⟩ := info_parts Try.infoInt
  intro v xs w hr hw hz
  obtain ⟨a, c, rfl, hel⟩ := row_tellI hr
  have HE : Hid (∀ (i : Nat) (s : Int), xs[i]? = some s → ∃ b o, a = some ⟨b, o, none⟩ ∧ w.cell? ⟨b, o + i, none⟩ = some (.int .i64 s)) := hel
  obtain ⟨len, hlen⟩ : ∃ len, xs.length = len := ⟨_, rfl⟩
  have HLN : Hid (xs.length = len) := hlen
  have hm : len ≤ 1048576 := by have := sumP_all szI xs; omega
  rw [hlen]
  clear hlen hel hw hz hr
  go_enter Try.func31, Try.ntmps31
  go_wp2_with (at_make; refine wpList_make_full _ rfl _ _ 23 rfl w.heap.size 3 i0 _ 1 Try.underlying23 hi hz0 hz1 _ _ _ _ len rfl rfl rfl rfl (by rw [hz2]; omega) (by unfold maxLen; omega) (Nat.le_refl _) ?_)
  intro w1 hown hgrow
  have hbel : Below w.heap.size w w1 := (Below.refl _ _).grown hgrow (Nat.le_refl _) (fun _ h => by cases h)
  obtain ⟨cur0, hc0, hs0⟩ : ∃ cur, w1.heap[w.heap.size]? = some (.cells cur 3 (0, 0)) ∧ cur.size = len * 1 := by
    rcases hown.2 with ⟨h', _⟩ | ⟨g', cap', cur, h', _, hg, _, _, hs, _⟩
    · simp at h'
    · simp only [Value.slice.injEq, Option.some.injEq, Addr.mk.injEq, and_true, true_and] at h'
      obtain ⟨rfl, rfl⟩ := h'
      exact ⟨cur, hg, hs⟩
  clear hown hgrow
  go_wp2
  go_loopw [4] (fun i wr => ∃ (k : Nat) (cur : Array Value) (fps : List (List Nat)), k ≤ len ∧ i = .int .i64 k ∧ wr.heap[w.heap.size]? = some (.cells cur 3 (0, 0)) ∧ cur.size = len * 1 ∧ fps.length = k ∧ fps.flatten.Nodup ∧ (∀ g ∈ fps.flatten, w.heap.size < g ∧ g < wr.heap.size) ∧ Below w.heap.size w wr ∧ Hid (DoneRow 1 InO xs k wr cur fps)) (fun i _ => len - (intOf i).toNat)
  case atStart => exact ⟨0, cur0, [], Nat.zero_le _, rfl, hc0, hs0, rfl, by simp, by simp, hbel, fun i t hi => by omega⟩
  case round =>
    clear hc0 hs0 hbel
    obtain ⟨k, cur, fps, hk, rfl, hh, hcs, hfl, hnd, hfr, hb, HD⟩ := hrel
    have hwz : w.heap.size < wr.heap.size := lt_row hh
    by_cases hkl : k < len
    · obtain ⟨t, ht⟩ : ∃ t, xs[k]? = some t := ⟨_, List.getElem?_eq_getElem (by rw [HLN.out]; exact hkl)⟩
      obtain ⟨b, o, rfl, f0⟩ := HE.out k t ht
      have f1 := cell_later hb f0
      have hsz : k < cur.size := by omega
      have c0 : wr.cell? ⟨w.heap.size, k, none⟩ = some cur[k] := by rw [cell_of_row wr _ _ _ _ _ hh]; exact Array.getElem?_eq_getElem hsz
      have z0 : wr.frozen? ⟨w.heap.size, k, none⟩ = false := frozen_of_row wr _ _ _ _ hh
      obtain ⟨S1, S2, S3, S4, S5, S6, S7⟩ := row_step InO.lasts hkl hcs hfl hnd hfr hwz hb (Below.refl _ _) HD.out ht (vs := [.int .i64 t]) rfl ⟨rfl, rfl⟩ ⟨List.nodup_nil, fun g hg => by cases hg⟩ hh
      have e1 : setL wr w.heap.size (k * 1) [.int .i64 t] = wr.setCell ⟨w.heap.size, k, none⟩ (.int .i64 t) := by rw [Nat.mul_one]; rfl
      rw [e1] at S1 S5 S6 S7
      have HS : Hid ((_ ∧ _ ∧ _ ∧ _ ∧ _ ∧ _) ∧ _) := ⟨⟨S1, S2, S3, S4, S5, S6⟩, S7⟩
      have hkl' : (k : Int) < (len : Int) := by omega
      clear S1 S2 S3 S4 S5 S6 S7 hh hcs hfl hnd hfr hb HD f0 ht e1
      go_wp2
      go_roundw
      case rel => exact ⟨k + 1, _, _, by omega, by go_num, HS.out.1.1, HS.out.1.2.1, HS.out.1.2.2.1, HS.out.1.2.2.2.1, HS.out.1.2.2.2.2.1, HS.out.1.2.2.2.2.2, HS.out.2⟩
      case measure => simp [intOf]; omega
    · obtain rfl : k = len := by omega
      have HO := row_done (T := 3) (w := w) HLN.out hfl hnd hfr hwz hh HD.out
      have HFF : Hid _ := HO
      clear HO hh hcs hfl hnd hfr HD
      go_wp2
      go_ret
      exact ⟨_, _, _, _, rfl, HFF.out.1, HFF.out.2, hb⟩

set_option maxHeartbeats 1000000 in
theorem eqInts_any : EqLs 23 1 InR I64 := by
  intro v1 v2 l w h1 h2 hw
  have hm : l.length ≤ 9223372036854775807 := hw.1
  obtain ⟨a1, c1, rfl, e1⟩ := row_tellI h1
  obtain ⟨a2, c2, rfl, e2⟩ := row_tellI h2
  have HE1 : Hid (∀ (i : Nat) (s : Int), l[i]? = some s → ∃ b o, a1 = some ⟨b, o, none⟩ ∧ w.cell? ⟨b, o + i, none⟩ = some (.int .i64 s)) := e1
  have HE2 : Hid (∀ (i : Nat) (s : Int), l[i]? = some s → ∃ b o, a2 = some ⟨b, o, none⟩ ∧ w.cell? ⟨b, o + i, none⟩ = some (.int .i64 s)) := e2
  obtain ⟨len, hlen⟩ : ∃ len, l.length = len := ⟨_, rfl⟩
  have HLN : Hid (l.length = len) := hlen
  rw [hlen] at hm ⊢
  clear hlen e1 e2 h1 h2 hw
  go_enter Try.func23, Try.ntmps23
  go_wp2_with fail
  go_loopw [5] (fun i wr => ∃ k : Nat, k ≤ len ∧ i = .int .i64 k ∧ Below w.heap.size w wr) (fun i _ => len - (intOf i).toNat)
  case atStart => exact ⟨0, Nat.zero_le _, rfl, Below.refl _ _⟩
  case round =>
    obtain ⟨k, hk, rfl, hb⟩ := hrel
    by_cases hkl : k < len
    · obtain ⟨s, hs⟩ : ∃ s, l[k]? = some s := ⟨_, List.getElem?_eq_getElem (by rw [HLN.out]; exact hkl)⟩
      obtain ⟨b, o, rfl, f0⟩ := HE1.out k s hs
      obtain ⟨b2, o2, rfl, g0⟩ := HE2.out k s hs
      have f1 := cell_later hb f0
      have g1 := cell_later hb g0
      have hkl' : (k : Int) < (len : Int) := by omega
      clear f0 g0 hs
      go_wp2_with fail
      go_region
      all_goals
        have hb2 : Below w.heap.size w wr.drew := hb.drew
        clear hb
        go_wp2
        go_roundw
        case rel => exact ⟨k + 1, by omega, by go_num, hb2⟩
        case measure => simp [intOf]; omega
    · go_wp2
      go_ret
      exact ⟨rfl, hb⟩

theorem lft_neg (l : Int) (n : Nat) (h : lft l n < 0) : lft l n = -1 := by
  unfold lft at h ⊢
  by_cases q : (n : Int) ≤ l
  · rw [if_pos q] at h; omega
  · rw [if_neg q]

theorem Try.cellsInts : Try.prog.cellsOf 23 = 1 := by kernel_rfl
theorem Try.cells4 : Try.prog.cellsOf 4 = 1 := by kernel_rfl

section
variable {H : Type} {enc : TypeId × Value → H} {W : World} {base : Nat} {spare : Nat → Bool} {held : Bool}

theorem read_ints {m : Nat} {v : Value} {x : DataW H × List MemPlace} (h : DataW.trod enc Try.prog W base spare held m 23 [v] = some x) : ∃ l : List Int, RowOf 1 InR W v l ∧ WfRow I64 l :=
  read_row (R := InR) (P := I64) Try.underlying23 Try.cells3 (by omega) (fun n hn cs x hx hl => by
    obtain ⟨c, rfl⟩ : ∃ c, cs = [c] := by
      match cs, hl with
      | [c], _ => exact ⟨c, rfl⟩
    obtain ⟨t, e, _, ht⟩ := DataW.trod_int Try.underlying3 hx
    simp only [List.cons.injEq, and_true] at e
    subst e
    exact ⟨t, rfl, bounds_i64 ht⟩) h

theorem read_tm {m d : Nat} (hd : m ≤ d) {cs : List Value} {x : DataW H × List MemPlace} (h : DataW.trod enc Try.prog W base spare held m 77 cs = some x) (hl : cs.length = 4) : ∃ t : Tm (d + 1), TmR d W cs t ∧ WfTm d t := by
  obtain ⟨c0, c1, c2, c3, rfl⟩ : ∃ c0 c1 c2 c3, cs = [c0, c1, c2, c3] := by
    match cs, hl with
    | [c0, c1, c2, c3], _ => exact ⟨c0, c1, c2, c3, rfl⟩
  obtain ⟨m', k, l, s, y, rfl, rfl, rfl, rfl, hk, hn, hs, h3⟩ := read_four h
  obtain ⟨ts, hT, wT⟩ := read_terms m' d (by omega) c3 y h3
  exact ⟨((k, l, s, ts) : Int × Int × ByteArray × List (Tm d)), ⟨_, rfl, hT⟩, hk, hn, hs, wT⟩
end

end Go.Proofs.Ytgmddookohkhlaa

/- A struct of the laws as data: Kid; the law's own measure, copy and comparison of it; how it is read. -/
namespace Go.Proofs.Ytgmddookohkhlaa
open Go.RowKit Go.ChangeShapes Go.WideShapes Go.Joins Go.Deep
set_option linter.unusedVariables false

structure DKid (d : Nat) where
  Name : ByteArray
  Mod : ByteArray
  Init : Tm (d + 1)
  Sub : Int


def KidR (d : Nat) (w : World) (vs : List Value) (x : DKid d) : Prop := ∃ v2 v3 v4 v5, vs = [.string x.Name, .string x.Mod, v2, v3, v4, v5, .int .i64 x.Sub] ∧ TmR d w [v2, v3, v4, v5] x.Init

def KidO (d : Nat) (w : World) (vs : List Value) (x : DKid d) (fp : List Nat) : Prop := ∃ v2 v3 v4 v5 f0, vs = [.string x.Name, .string x.Mod, v2, v3, v4, v5, .int .i64 x.Sub] ∧ fp = f0 ∧ TmO d w [v2, v3, v4, v5] x.Init f0

def WfKid (d : Nat) (x : DKid d) : Prop := x.Name.size ≤ maxLen ∧ x.Mod.size ≤ maxLen ∧ WfTm d x.Init ∧ I64 x.Sub

def szKidD (d : Nat) (x : DKid d) : Nat := x.Name.size + (x.Mod.size + (szTm d x.Init))

theorem KidR.lasts (d : Nat) : Lasts (KidR d) := by
  rintro w w' vs x ⟨v2, v3, v4, v5, rfl, h0⟩ hb
  exact ⟨v2, v3, v4, v5, rfl, (TmR.lasts d _ _ _ _ h0 hb)⟩

theorem KidO.lasts (d : Nat) : LastsO (KidO d) := by
  rintro w w' vs x fp ⟨v2, v3, v4, v5, f0, rfl, rfl, h0⟩ hb
  exact ⟨v2, v3, v4, v5, _, rfl, rfl, TmO.lasts d _ _ _ _ _ h0 fun j hj => hb j hj⟩

theorem KidO.reads (d : Nat) : Reads (KidO d) (KidR d) := by
  rintro w vs x fp ⟨v2, v3, v4, v5, f0, rfl, rfl, h0⟩
  exact ⟨v2, v3, v4, v5, rfl, (TmO.reads d _ _ _ _ h0)⟩

theorem KidR.shape (d : Nat) : ∀ w vs x, KidR d w vs x → ShKid vs := by
  rintro w vs x ⟨v2, v3, v4, v5, rfl, h0⟩
  obtain ⟨q0i2, q0i3, q0s4, q0a5, q0l5, q0c5, esh⟩ := TmR.shape d _ _ _ h0
  cases esh
  exact ⟨_, _, _, _, _, _, _, _, _, rfl⟩

theorem KidO.shape (d : Nat) : ∀ w vs x fp, KidO d w vs x fp → ShKid vs := fun w vs x fp h => KidR.shape d w vs x (KidO.reads d w vs x fp h)

set_option maxHeartbeats 4000000 in
theorem szKid_any (d : Nat) : SzEl 51 (KidR d) (WfKid d) (szKidD d) := by
  rintro vs x left w ⟨v2, v3, v4, v5, rfl, h0⟩ ⟨wName, wMod, wInit, wSub⟩ hl0 hm
  obtain ⟨i2, i3, s4, a5, l5, c5, esh⟩ := TmR.shape d _ _ _ h0
  cases esh
  have hsName : x.Name.size ≤ 9223372036854775807 := by unfold maxLen at wName; omega
  have hsMod : x.Mod.size ≤ 9223372036854775807 := by unfold maxLen at wMod; omega
  obtain ⟨W, hW⟩ : ∃ W, W = w.alloc (Obj.cells #[.string x.Name, .string x.Mod, .int .i64 i2, .int .i64 i3, .string s4, .slice a5 l5 c5, .int .i64 x.Sub] 79) := ⟨_, rfl⟩
  have hA : Below w.heap.size w W := by rw [hW]; exact (Below.refl _ _).alloc (Nat.le_refl _) _
  have hWc : W.heap[w.heap.size]? = some (Obj.cells #[.string x.Name, .string x.Mod, .int .i64 i2, .int .i64 i3, .string s4, .slice a5 l5 c5, .int .i64 x.Sub] 79 (0, 0)) := by rw [hW]; exact heap_alloc_new w _
  obtain ⟨A2, hA2⟩ : ∃ A, szTm d x.Init = A := ⟨_, rfl⟩
  have e0 : szKidD d x = x.Name.size + (x.Mod.size + (A2)) := by rw [← hA2]; rfl
  rw [e0]
  obtain ⟨TL, hTL⟩ : ∃ L, lft left (x.Name.size + (x.Mod.size + (A2))) = L := ⟨_, rfl⟩
  rw [hTL]
  have H2 : Hid (∀ V : World, Below w.heap.size w V → ∀ l : Int, 0 ≤ l → l ≤ 1048576 → _) := fun V hV l p1 p2 => szTm_any d [.int .i64 i2, .int .i64 i3, .string s4, .slice a5 l5 c5] x.Init l V (TmR.lasts d _ _ _ _ h0 hV) wInit p1 p2
  rw [hA2] at H2
  have HW : Hid (W = _) := hW
  have HT0 : Hid (TL = lft left (x.Name.size + (x.Mod.size + (A2)))) := hTL.symm
  have HB0 : Hid (Below w.heap.size w W ∧ W.heap[w.heap.size]? = some (Obj.cells #[.string x.Name, .string x.Mod, .int .i64 i2, .int .i64 i3, .string s4, .slice a5 l5 c5, .int .i64 x.Sub] 79 (0, 0))) := ⟨hA, hWc⟩
  clear e0 hTL hW hA hWc hA2 h0 wInit
  by_cases hlt0 : left < (x.Name.size : Int)
  · have HF : Hid ((-1 : Int) = TL) := by show _ = _; rw [HT0.out]; unfold lft; rw [if_neg (by omega)]
    go_enter Try.func51, Try.ntmps51
    go_wp2
    go_ret
    exact ⟨tret1 HF.out, (by have := HB0.out.1; rw [HW.out] at this; exact this)⟩
  · have HT1 : Hid (TL = lft (left - (x.Name.size : Int)) (x.Mod.size + (A2))) := by
      show _ = _
      rw [HT0.out]
      unfold lft
      by_cases h : ((x.Mod.size + (A2) : Nat) : Int) ≤ (left - (x.Name.size : Int))
      · rw [if_pos h, if_pos (by omega)]; omega
      · rw [if_neg h, if_neg (by omega)]
    by_cases hlt1 : (left - (x.Name.size : Int)) < (x.Mod.size : Int)
    · have HF : Hid ((-1 : Int) = TL) := by show _ = _; rw [HT1.out]; unfold lft; rw [if_neg (by omega)]
      go_enter Try.func51, Try.ntmps51
      go_wp2
      go_ret
      exact ⟨tret1 HF.out, (by have := HB0.out.1; rw [HW.out] at this; exact this)⟩
    · have HT2 : Hid (TL = lft ((left - (x.Name.size : Int)) - (x.Mod.size : Int)) (A2)) := by
        show _ = _
        rw [HT1.out]
        unfold lft
        by_cases h : ((A2 : Nat) : Int) ≤ ((left - (x.Name.size : Int)) - (x.Mod.size : Int))
        · rw [if_pos h, if_pos (by omega)]; omega
        · rw [if_neg h, if_neg (by omega)]
      have hC := H2.out W HB0.out.1 ((left - (x.Name.size : Int)) - (x.Mod.size : Int)) (by omega) (by omega)
      obtain ⟨y2, hy2⟩ : ∃ y, lft ((left - (x.Name.size : Int)) - (x.Mod.size : Int)) A2 = y := ⟨_, rfl⟩
      have HL2 : Hid (y2 < 0 → y2 = -1) := fun h => by rw [← hy2] at h ⊢; exact lft_neg _ _ h
      have HM2 : Hid (TL = y2) := HT2.out.trans hy2
      rw [hy2] at hC
      clear hy2
      rw [HW.out] at hC
      go_enter Try.func51, Try.ntmps51
      go_wp2_with fail
      refine hC.mono ?_
      clear hC
      rintro e w2 ⟨rfl, hb2⟩
      rw [← HW.out] at hb2
      have HB3 : Hid (Below w.heap.size w w2 ∧ w2.heap[w.heap.size]? = some (Obj.cells #[.string x.Name, .string x.Mod, .int .i64 i2, .int .i64 i3, .string s4, .slice a5 l5 c5, .int .i64 x.Sub] 79 (0, 0))) := ⟨HB0.out.1.trans (hb2.mono HB0.out.1.size), (hb2.block _ (lt_row HB0.out.2)).trans HB0.out.2⟩
      clear hb2
      by_cases hneg : y2 < 0
      · have HF : Hid ((-1 : Int) = TL) := by show _ = _; rw [HM2.out]; exact (HL2.out (by omega)).symm
        go_wp2
        go_ret
        exact ⟨tret1 HF.out, HB3.out.1⟩
      · have HF : Hid (y2 = TL) := HM2.out.symm
        go_wp2
        go_ret
        exact ⟨tret1 HF.out, HB3.out.1⟩

theorem szKidS_any (d : Nat) : SzLs 26 7 (KidR d) (WfKid d) (szKidD d) := szKidS_of _ _ _ (KidR.lasts d) (KidR.shape d) (szKid_any d)

set_option maxHeartbeats 4000000 in
theorem toKid_any (d : Nat) : ToEl 55 (KidR d) (KidO d) (WfKid d) (szKidD d) := by
  rintro vs x w ⟨v2, v3, v4, v5, rfl, h0⟩ ⟨wName, wMod, wInit, wSub⟩ hz
  have hz' : x.Name.size + (x.Mod.size + (szTm d x.Init)) ≤ 1048576 := hz
  obtain ⟨i2, i3, s4, a5, l5, c5, esh⟩ := TmR.shape d _ _ _ h0
  cases esh
  obtain ⟨W, hW⟩ : ∃ W, W = ((w.alloc (Obj.cells #[.string x.Name, .string x.Mod, .int .i64 i2, .int .i64 i3, .string s4, .slice a5 l5 c5, .int .i64 x.Sub] 79)).alloc (.cells #[.string ⟨#[]⟩, .string ⟨#[]⟩, .int .i64 0, .int .i64 0, .string ⟨#[]⟩, .slice none 0 0, .int .i64 0] 55)).alloc (.cells #[.string x.Name, .string x.Mod, .int .i64 0, .int .i64 0, .string ⟨#[]⟩, .slice none 0 0, .int .i64 0] 55) := ⟨_, rfl⟩
  obtain ⟨nA, nB, nC⟩ := heap_three w (Obj.cells #[.string x.Name, .string x.Mod, .int .i64 i2, .int .i64 i3, .string s4, .slice a5 l5 c5, .int .i64 x.Sub] 79) (.cells #[.string ⟨#[]⟩, .string ⟨#[]⟩, .int .i64 0, .int .i64 0, .string ⟨#[]⟩, .slice none 0 0, .int .i64 0] 55) (.cells #[.string x.Name, .string x.Mod, .int .i64 0, .int .i64 0, .string ⟨#[]⟩, .slice none 0 0, .int .i64 0] 55)
  rw [← hW] at nA nB nC
  have hWb : Below w.heap.size w W := by rw [hW]; exact (((Below.refl _ _).alloc (Nat.le_refl _) _).alloc (by simp) _).alloc (by simp; omega) _
  have hWs : W.heap.size = w.heap.size + 1 + 1 + 1 := by rw [hW]; simp
  have H2 : Hid (∀ V : World, Below w.heap.size w V → _) := fun V hV => toTm_any d [.int .i64 i2, .int .i64 i3, .string s4, .slice a5 l5 c5] x.Init V (TmR.lasts d _ _ _ _ h0 hV) wInit (by omega)
  have HSO2 : Hid (∀ (V : World) (vs : List Value) (f : List Nat), TmO d V vs x.Init f → ShTerm vs) := fun V vs f h => TmO.shape d V vs x.Init f h
  have HW : Hid (W = _) := hW
  have HBW : Hid (Below w.heap.size w W) := hWb
  have HN : Hid (_ ∧ _ ∧ _) := ⟨nA, nB, nC⟩
  clear hW nA nB nC hWb hz hz' h0 wInit
  have hC := H2.out W HBW.out
  rw [HW.out] at hC
  go_enter Try.func55, Try.ntmps55
  go_wp2_with fail
  refine hC.mono ?_
  clear hC
  rintro e w2 ⟨vs2, fp2, rfl, hown2, hfr2, hb2⟩
  obtain ⟨yi2, yi3, ys4, ya5, yl5, yc5, rfl⟩ := HSO2.out _ _ _ hown2
  rw [← HW.out] at hfr2 hb2
  obtain ⟨nA, nB, nC⟩ := HN.out
  have zz2 := hb2.size
  have nA2 := (hb2.block _ (lt_row nA)).trans nA
  have nB2 := (hb2.block _ (lt_row nB)).trans nB
  have nC2 := (hb2.block _ (lt_row nC)).trans nC
  have HR2 : Hid (fp2.Nodup ∧ ∀ g ∈ fp2, W.heap.size ≤ g ∧ g < w2.heap.size) := ⟨hfr2.1, hfr2.2⟩
  have HFIN : Hid (∀ Z, Kept (w.heap.size + 1) (w.heap.size + 1 + 1 + 1) w2 Z → KidO d Z [.string x.Name, .string x.Mod, .int .i64 yi2, .int .i64 yi3, .string ys4, .slice ya5 yl5 yc5, .int .i64 x.Sub] x (fp2) ∧ Fresh w.heap.size Z (fp2) ∧ Below w.heap.size w Z) := fun Z hZ => by
    have hzZ := hZ.size
    have hbw : Below w.heap.size w w2 := HBW.out.trans (hb2.mono HBW.out.size)
    have hwz := hbw.size
    have r2 := HR2.out
    refine ⟨⟨_, _, _, _, fp2, rfl, rfl, TmO.lasts d _ _ _ _ _ hown2 fun g hg => hZ.block g (r2.2 g hg).2 (.inr (by have := (r2.2 g hg).1; omega))⟩, ⟨?_, fun g hg => ?_⟩, ?_⟩
    · exact r2.1
    · have := r2.2 g hg; omega
    · exact hbw.trans (hZ.below (by omega) hbw.size)
  have f6 : w2.cell? ⟨w.heap.size, 6, none⟩ = some (.int .i64 x.Sub) := by rw [cell_of_row w2 _ 6 _ _ _ nA2]; rfl
  have g0 : w2.cell? ⟨w.heap.size + 1 + 1, 0, none⟩ = some (.string x.Name) := by rw [cell_of_row w2 _ 0 _ _ _ nC2]; rfl
  have z0 : w2.frozen? ⟨w.heap.size + 1 + 1, 0, none⟩ = false := frozen_of_row w2 _ _ _ _ nC2
  have b0 : w2.cell? ⟨w.heap.size + 1, 0, none⟩ = some (.string ⟨#[]⟩) := by rw [cell_of_row w2 _ 0 _ _ _ nB2]; rfl
  have u0 : w2.frozen? ⟨w.heap.size + 1, 0, none⟩ = false := frozen_of_row w2 _ _ _ _ nB2
  have g1 : w2.cell? ⟨w.heap.size + 1 + 1, 1, none⟩ = some (.string x.Mod) := by rw [cell_of_row w2 _ 1 _ _ _ nC2]; rfl
  have z1 : w2.frozen? ⟨w.heap.size + 1 + 1, 1, none⟩ = false := frozen_of_row w2 _ _ _ _ nC2
  have b1 : w2.cell? ⟨w.heap.size + 1, 1, none⟩ = some (.string ⟨#[]⟩) := by rw [cell_of_row w2 _ 1 _ _ _ nB2]; rfl
  have u1 : w2.frozen? ⟨w.heap.size + 1, 1, none⟩ = false := frozen_of_row w2 _ _ _ _ nB2
  have g2 : w2.cell? ⟨w.heap.size + 1 + 1, 2, none⟩ = some (.int .i64 0) := by rw [cell_of_row w2 _ 2 _ _ _ nC2]; rfl
  have z2 : w2.frozen? ⟨w.heap.size + 1 + 1, 2, none⟩ = false := frozen_of_row w2 _ _ _ _ nC2
  have b2 : w2.cell? ⟨w.heap.size + 1, 2, none⟩ = some (.int .i64 0) := by rw [cell_of_row w2 _ 2 _ _ _ nB2]; rfl
  have u2 : w2.frozen? ⟨w.heap.size + 1, 2, none⟩ = false := frozen_of_row w2 _ _ _ _ nB2
  have g3 : w2.cell? ⟨w.heap.size + 1 + 1, 3, none⟩ = some (.int .i64 0) := by rw [cell_of_row w2 _ 3 _ _ _ nC2]; rfl
  have z3 : w2.frozen? ⟨w.heap.size + 1 + 1, 3, none⟩ = false := frozen_of_row w2 _ _ _ _ nC2
  have b3 : w2.cell? ⟨w.heap.size + 1, 3, none⟩ = some (.int .i64 0) := by rw [cell_of_row w2 _ 3 _ _ _ nB2]; rfl
  have u3 : w2.frozen? ⟨w.heap.size + 1, 3, none⟩ = false := frozen_of_row w2 _ _ _ _ nB2
  have g4 : w2.cell? ⟨w.heap.size + 1 + 1, 4, none⟩ = some (.string ⟨#[]⟩) := by rw [cell_of_row w2 _ 4 _ _ _ nC2]; rfl
  have z4 : w2.frozen? ⟨w.heap.size + 1 + 1, 4, none⟩ = false := frozen_of_row w2 _ _ _ _ nC2
  have b4 : w2.cell? ⟨w.heap.size + 1, 4, none⟩ = some (.string ⟨#[]⟩) := by rw [cell_of_row w2 _ 4 _ _ _ nB2]; rfl
  have u4 : w2.frozen? ⟨w.heap.size + 1, 4, none⟩ = false := frozen_of_row w2 _ _ _ _ nB2
  have g5 : w2.cell? ⟨w.heap.size + 1 + 1, 5, none⟩ = some (.slice none 0 0) := by rw [cell_of_row w2 _ 5 _ _ _ nC2]; rfl
  have z5 : w2.frozen? ⟨w.heap.size + 1 + 1, 5, none⟩ = false := frozen_of_row w2 _ _ _ _ nC2
  have b5 : w2.cell? ⟨w.heap.size + 1, 5, none⟩ = some (.slice none 0 0) := by rw [cell_of_row w2 _ 5 _ _ _ nB2]; rfl
  have u5 : w2.frozen? ⟨w.heap.size + 1, 5, none⟩ = false := frozen_of_row w2 _ _ _ _ nB2
  have g6 : w2.cell? ⟨w.heap.size + 1 + 1, 6, none⟩ = some (.int .i64 0) := by rw [cell_of_row w2 _ 6 _ _ _ nC2]; rfl
  have z6 : w2.frozen? ⟨w.heap.size + 1 + 1, 6, none⟩ = false := frozen_of_row w2 _ _ _ _ nC2
  have b6 : w2.cell? ⟨w.heap.size + 1, 6, none⟩ = some (.int .i64 0) := by rw [cell_of_row w2 _ 6 _ _ _ nB2]; rfl
  have u6 : w2.frozen? ⟨w.heap.size + 1, 6, none⟩ = false := frozen_of_row w2 _ _ _ _ nB2
  clear nA2 nB2 nC2 nA nB nC hown2 hfr2 hb2 HN
  go_wp2_with fail
  refine bodyPost_ret (v := .agg #[.string x.Name, .string x.Mod, .int .i64 yi2, .int .i64 yi3, .string ys4, .slice ya5 yl5 yc5, .int .i64 x.Sub]) (by first | (simp [results, Try.results55, go_sem, b0, b1, b2, b3, b4, b5, b6]; done) | (simp [results, Try.results55, go_sem, b0, b1, b2, b3, b4, b5, b6]; rfl)) rfl ⟨[.string x.Name, .string x.Mod, .int .i64 yi2, .int .i64 yi3, .string ys4, .slice ya5 yl5 yc5, .int .i64 x.Sub], fp2, rfl, HFIN.out _ ?_⟩
  repeat (first | with_reducible exact Kept.refl _ _ _ | with_reducible refine Kept.drew ?_ | (with_reducible refine Kept.set ?_ ?_; omega))

theorem toKidS_any (d : Nat) : ToLs 30 7 55 (KidR d) (KidO d) (WfKid d) (szKidD d) := toKidS_of _ _ _ _ (KidR.lasts d) (KidO.lasts d) (KidR.shape d) (KidO.shape d) (toKid_any d)

set_option maxHeartbeats 4000000 in
theorem eqKid_any (d : Nat) : EqEl 61 (KidR d) (WfKid d) := by
  rintro vs1 vs2 x w ⟨v2, v3, v4, v5, rfl, h0⟩ ⟨v2z, v3z, v4z, v5z, rfl, k0⟩ ⟨wName, wMod, wInit, wSub⟩
  obtain ⟨i2, i3, s4, a5, l5, c5, esh⟩ := TmR.shape d _ _ _ h0
  cases esh
  obtain ⟨zi2, zi3, zs4, za5, zl5, zc5, esz⟩ := TmR.shape d _ _ _ k0
  cases esz
  obtain ⟨W, hW⟩ : ∃ W, W = (w.alloc (Obj.cells #[.string x.Name, .string x.Mod, .int .i64 i2, .int .i64 i3, .string s4, .slice a5 l5 c5, .int .i64 x.Sub] 55)).alloc (Obj.cells #[.string x.Name, .string x.Mod, .int .i64 zi2, .int .i64 zi3, .string zs4, .slice za5 zl5 zc5, .int .i64 x.Sub] 55) := ⟨_, rfl⟩
  have hA : Below w.heap.size w W := by rw [hW]; exact ((Below.refl _ _).alloc (Nat.le_refl _) _).alloc (by simp) _
  have n1 : W.heap[w.heap.size]? = some (Obj.cells #[.string x.Name, .string x.Mod, .int .i64 i2, .int .i64 i3, .string s4, .slice a5 l5 c5, .int .i64 x.Sub] 55 (0, 0)) := by rw [hW, Below.heap_alloc _ _ _ (by simp)]; exact heap_alloc_new w _
  have n2 : W.heap[w.heap.size + 1]? = some (Obj.cells #[.string x.Name, .string x.Mod, .int .i64 zi2, .int .i64 zi3, .string zs4, .slice za5 zl5 zc5, .int .i64 x.Sub] 55 (0, 0)) := by rw [hW]; have := heap_alloc_new (w.alloc (Obj.cells #[.string x.Name, .string x.Mod, .int .i64 i2, .int .i64 i3, .string s4, .slice a5 l5 c5, .int .i64 x.Sub] 55)) (Obj.cells #[.string x.Name, .string x.Mod, .int .i64 zi2, .int .i64 zi3, .string zs4, .slice za5 zl5 zc5, .int .i64 x.Sub] 55); simpa using this
  have H2 : Hid (∀ V : World, Below w.heap.size w V → _) := fun V hV => eqTm_any d [.int .i64 i2, .int .i64 i3, .string s4, .slice a5 l5 c5] [.int .i64 zi2, .int .i64 zi3, .string zs4, .slice za5 zl5 zc5] x.Init V (TmR.lasts d _ _ _ _ h0 hV) (TmR.lasts d _ _ _ _ k0 hV) wInit
  have HW : Hid (W = _) := hW
  have HN : Hid (Below w.heap.size w W ∧ _ ∧ _) := ⟨hA, n1, n2⟩
  clear n1 n2 h0 k0 wInit
  clear hA
  have hC := H2.out W HN.out.1
  rw [hW] at hC
  clear hW
  go_enter Try.func61, Try.ntmps61
  go_wp2_with fail
  refine hC.mono ?_
  clear hC
  rintro e w2 ⟨rfl, hb2⟩
  rw [← HW.out] at hb2
  have HN2 : Hid (Below w.heap.size w w2 ∧ _ ∧ _) := ⟨HN.out.1.trans (hb2.mono HN.out.1.size), (hb2.block _ (lt_row HN.out.2.1)).trans HN.out.2.1, (hb2.block _ (lt_row HN.out.2.2)).trans HN.out.2.2⟩
  clear hb2
  have f6 : w2.cell? ⟨w.heap.size, 6, none⟩ = some (.int .i64 x.Sub) := by rw [cell_of_row w2 _ 6 _ _ _ HN2.out.2.1]; rfl
  have g6 : w2.cell? ⟨w.heap.size + 1, 6, none⟩ = some (.int .i64 x.Sub) := by rw [cell_of_row w2 _ 6 _ _ _ HN2.out.2.2]; rfl
  go_wp2
  go_ret
  exact ⟨rfl, HN2.out.1⟩

theorem eqKidS_any (d : Nat) : EqLs 35 7 (KidR d) (WfKid d) := eqKidS_of _ _ (KidR.lasts d) (KidR.shape d) (eqKid_any d)

theorem Kid_at {d n c : Nat} {w : World} {a : Option Addr} {m : List (DKid d)} (h : RowOf 7 (KidR d) w (.slice a n c) m) (i : Nat) (x : (DKid d)) (hx : m[i]? = some x) : ∃ (b o : Nat) (i2 : Int) (i3 : Int) (s4 : ByteArray) (a5 : Option Addr) (l5 c5 : Nat), a = some ⟨b, o, none⟩ ∧ w.cell? ⟨b, o + i * 7, none⟩ = some (.string x.Name) ∧ w.cell? ⟨b, o + i * 7 + 1, none⟩ = some (.string x.Mod) ∧ w.cell? ⟨b, o + i * 7 + 2, none⟩ = some (.int .i64 i2) ∧ w.cell? ⟨b, o + i * 7 + 3, none⟩ = some (.int .i64 i3) ∧ w.cell? ⟨b, o + i * 7 + 4, none⟩ = some (.string s4) ∧ w.cell? ⟨b, o + i * 7 + 5, none⟩ = some (.slice a5 l5 c5) ∧ w.cell? ⟨b, o + i * 7 + 6, none⟩ = some (.int .i64 x.Sub) ∧ TmR d w [.int .i64 i2, .int .i64 i3, .string s4, .slice a5 l5 c5] x.Init := by
  obtain ⟨a', c', e, hel⟩ := h
  cases e
  obtain ⟨b, o, vs, h2, h3, h4, v2, v3, v4, v5, rfl, g0⟩ := hel i x hx
  obtain ⟨i2, i3, s4, a5, l5, c5, esh⟩ := TmR.shape d _ _ _ g0
  cases esh
  exact ⟨b, o, i2, i3, s4, a5, l5, c5, h2, h4 0 _ rfl, h4 1 _ rfl, h4 2 _ rfl, h4 3 _ rfl, h4 4 _ rfl, h4 5 _ rfl, h4 6 _ rfl, g0⟩

theorem Try.cellsKid : Try.prog.cellsOf 79 = 7 := by kernel_rfl
theorem Try.cellsKids : Try.prog.cellsOf 22 = 1 := by kernel_rfl
section
variable {H : Type} {enc : TypeId × Value → H} {W : World} {base : Nat} {spare : Nat → Bool} {held : Bool}

set_option maxRecDepth 100000 in
theorem read_KidC (m d : Nat) (hd : m ≤ d) (cs : List Value) (x : DataW H × List MemPlace) (h : DataW.trod enc Try.prog W base spare held m 79 cs = some x) (hl : cs.length = 7) : ∃ f : DKid d, KidR d W cs f ∧ WfKid d f := by
  obtain ⟨c0, c1, c2, c3, c4, c5, c6, rfl⟩ : ∃ c0 c1 c2 c3 c4 c5 c6, cs = [c0, c1, c2, c3, c4, c5, c6] := by
    match cs, hl with
    | [c0, c1, c2, c3, c4, c5, c6], _ => exact ⟨c0, c1, c2, c3, c4, c5, c6, rfl⟩
  obtain ⟨xs, m, rfl, _, _, hxl, hf⟩ := DataW.trod_struct Try.underlying79 h
  have hxl' : xs.length = 4 := hxl
  have h0 : DataW.trod enc Try.prog W base spare held m 9 [c0] = xs[0]? := by have := hf 0 _ rfl; simpa [Try.cells3, Try.cells9, Try.cellsTerm] using this
  have h1 : DataW.trod enc Try.prog W base spare held m 9 [c1] = xs[1]? := by have := hf 1 _ rfl; simpa [Try.cells3, Try.cells9, Try.cellsTerm] using this
  have h2 : DataW.trod enc Try.prog W base spare held m 77 [c2, c3, c4, c5] = xs[2]? := by have := hf 2 _ rfl; simpa [Try.cells3, Try.cells9, Try.cellsTerm] using this
  have h3 : DataW.trod enc Try.prog W base spare held m 3 [c6] = xs[3]? := by have := hf 3 _ rfl; simpa [Try.cells3, Try.cells9, Try.cellsTerm] using this
  rw [List.getElem?_eq_getElem (by omega)] at h0 h1 h2 h3
  obtain ⟨x0, e0, _, q0⟩ := DataW.trod_string Try.underlying9 h0
  obtain ⟨x1, e1, _, q1⟩ := DataW.trod_string Try.underlying9 h1
  obtain ⟨x3, e3, _, q3⟩ := DataW.trod_int Try.underlying3 h3
  simp only [List.cons.injEq, and_true] at e0 e1 e3
  subst e0 e1 e3
  obtain ⟨x2, r2, q2⟩ := read_tm (d := d) (by omega) h2 rfl
  exact ⟨⟨x0, x1, x2, x3⟩, ⟨_, _, _, _, rfl, r2⟩, q0, q1, q2, bounds_i64 q3⟩

theorem read_Kids {m d : Nat} (hd : m ≤ d) {v : Value} {x : DataW H × List MemPlace} (h : DataW.trod enc Try.prog W base spare held m 22 [v] = some x) : ∃ l : List (DKid d), RowOf 7 (KidR d) W v l ∧ WfRow (WfKid d) l :=
  read_row (R := KidR d) (P := WfKid d) Try.underlying22 Try.cellsKid (by omega) (fun n hn cs x hx hl => read_KidC n d (by omega) cs x hx hl) h

set_option maxRecDepth 100000 in
theorem read_Kid {r : Reach} {b0 : Nat} {v : Value} {x : DataW H} {p : List MemPlace} (hv : Value.okWide Try.prog W r b0 79 v) (h : DataW.Trod enc Try.prog W base spare held 79 v x p) :
    ∃ M, ∀ d, M ≤ d → ∃ (vs : List Value) (e : DKid d), v = .agg vs.toArray ∧ KidR d W vs e ∧ WfKid d e := by
  obtain ⟨cs, rfl, hsz⟩ := okWide_struct Try.underlying79 hv
  obtain ⟨fuel, hf⟩ := h
  have hf' : DataW.trod enc Try.prog W base spare held fuel 79 cs.toList = some (x, p) := hf
  refine ⟨fuel, fun d hd => ?_⟩
  obtain ⟨e, h1, h2⟩ := read_KidC fuel d hd cs.toList _ hf' (by have := hsz.trans Try.cellsKid; simpa using this)
  exact ⟨cs.toList, e, by simp, h1, h2⟩
end

end Go.Proofs.Ytgmddookohkhlaa

/- Searches and questions over lists, as data. -/
namespace Go.Proofs.Ytgmddookohkhlaa
open Go.RowKit
set_option linter.unusedVariables false

/-- The first place of which p holds; -1: there is none. -/
def fidx {α : Type} (p : α → Bool) (l : List α) : Int := match l.findIdx? p with | some i => (i : Int) | none => -1

theorem fidx_hit {α : Type} {p : α → Bool} {l : List α} {k : Nat} {x : α} (hx : l[k]? = some x) (hp : p x = true) (hn : ∀ (j : Nat) (y : α), j < k → l[j]? = some y → p y = false) : fidx p l = k := by
  have : l.findIdx? p = some k := by
    rw [List.findIdx?_eq_some_iff_getElem]
    obtain ⟨h1, h2⟩ := List.getElem?_eq_some_iff.1 hx
    refine ⟨h1, by rw [h2]; exact hp, fun j hj => ?_⟩
    have := hn j l[j] hj (List.getElem?_eq_getElem (by omega))
    simp [this]
  unfold fidx
  rw [this]
theorem fidx_none {α : Type} {p : α → Bool} {l : List α} (hn : ∀ (j : Nat) (y : α), j < l.length → l[j]? = some y → p y = false) : fidx p l = -1 := by
  have : l.findIdx? p = none := by
    rw [List.findIdx?_eq_none_iff]
    intro x hx
    obtain ⟨j, hj, rfl⟩ := List.mem_iff_getElem.1 hx
    exact hn j _ hj (List.getElem?_eq_getElem hj)
  unfold fidx
  rw [this]
theorem fidx_cases {α : Type} (p : α → Bool) (l : List α) : (fidx p l = -1 ∧ ∀ x ∈ l, p x = false) ∨ ∃ (k : Nat) (x : α), fidx p l = k ∧ l[k]? = some x ∧ p x = true ∧ ∀ (j : Nat) (y : α), j < k → l[j]? = some y → p y = false := by
  cases h : l.findIdx? p with
  | none =>
    refine .inl ⟨by unfold fidx; rw [h], fun x hx => ?_⟩
    exact (List.findIdx?_eq_none_iff.1 h) x hx
  | some k =>
    obtain ⟨h1, h2, h3⟩ := List.findIdx?_eq_some_iff_getElem.1 h
    refine .inr ⟨k, l[k], by unfold fidx; rw [h], List.getElem?_eq_getElem h1, h2, fun j y hj hy => ?_⟩
    obtain ⟨q1, q2⟩ := List.getElem?_eq_some_iff.1 hy
    have := h3 j hj
    rw [q2] at this
    simpa using this

theorem later_step {α : Type} {p : α → Bool} {l : List α} {k : Nat} {x : α} (hx : l[k]? = some x) (hp : p x = false) (hn : ∀ (j : Nat) (y : α), j < k → l[j]? = some y → p y = false) : ∀ (j : Nat) (y : α), j < k + 1 → l[j]? = some y → p y = false := fun j y hj hy => by
  rcases Nat.lt_or_ge j k with q | q
  · exact hn j y q hy
  · obtain rfl : j = k := by omega
    rw [hx] at hy
    cases hy
    exact hp

/-- p holds at every place. -/
def allI {α : Type} (p : Nat → α → Bool) (l : List α) : Bool := (List.range l.length).all fun i => match l[i]? with | some x => p i x | none => true

theorem allI_no {α : Type} {p : Nat → α → Bool} {l : List α} {k : Nat} {x : α} (hx : l[k]? = some x) (hp : p k x = false) : allI p l = false := by
  unfold allI
  rw [List.all_eq_false]
  exact ⟨k, List.mem_range.2 (List.getElem?_eq_some_iff.1 hx).1, by rw [hx]; simp [hp]⟩
theorem allI_yes {α : Type} {p : Nat → α → Bool} {l : List α} (hn : ∀ (j : Nat) (y : α), j < l.length → l[j]? = some y → p j y = true) : allI p l = true := by
  unfold allI
  rw [List.all_eq_true]
  intro i hi
  have hi' := List.mem_range.1 hi
  rw [List.getElem?_eq_getElem hi']
  exact hn i _ hi' (List.getElem?_eq_getElem hi')
theorem allI_step {α : Type} {p : Nat → α → Bool} {l : List α} {k : Nat} {x : α} (hx : l[k]? = some x) (hp : p k x = true) (hn : ∀ (j : Nat) (y : α), j < k → l[j]? = some y → p j y = true) : ∀ (j : Nat) (y : α), j < k + 1 → l[j]? = some y → p j y = true := fun j y hj hy => by
  rcases Nat.lt_or_ge j k with q | q
  · exact hn j y q hy
  · obtain rfl : j = k := by omega
    rw [hx] at hy
    cases hy
    exact hp
theorem allI_iff {α : Type} {p : Nat → α → Bool} {l : List α} : allI p l = true ↔ ∀ (j : Nat) (y : α), l[j]? = some y → p j y = true := by
  constructor
  · intro h j y hy
    cases e : p j y with
    | true => rfl
    | false => rw [allI_no hy e] at h; cases h
  · intro h; exact allI_yes fun j y _ hy => h j y hy

theorem str_same0 {a b : ByteArray} (h : a.toList = b.toList) : a = b := by
  rw [ByteArray.toList_eq, ByteArray.toList_eq] at h
  exact ByteArray.ext (Array.toList_inj.mp h)
theorem str_beq (a b : ByteArray) : (a.toList == b.toList) = decide (a = b) := by
  by_cases h : a = b
  · subst h; simp
  · rw [decide_eq_false h, beq_eq_false_iff_ne]; exact fun e => h (str_same0 e)

/-- That a number lies between two. -/
def inI (x a b : Int) : Bool := decide (a ≤ x) && decide (x ≤ b)

theorem szL_len {d : Nat} (ts : List (Tm (d + 1))) : ts.length ≤ szL (d + 1) ts := Nat.le_add_right _ _
theorem szRow_len {α : Type} (f : α → Nat) (xs : List α) : xs.length ≤ szRow f xs := Nat.le_add_right _ _

end Go.Proofs.Ytgmddookohkhlaa

/- The model's test of a number between two. -/
namespace Go.Proofs.Ytgmddookohkhlaa
open Go.RowKit
set_option linter.unusedVariables false

theorem tretb {a b : Bool} (h : a = b) : Ending.returned (.bool a) = .returned (.bool b) := by rw [h]

/-- An answer that is a bool: just if P. -/
def BRes (P : Prop) (w : World) (e : Ending) (w' : World) : Prop := ∃ b : Bool, e = .returned (.bool b) ∧ (b = true ↔ P) ∧ Below w.heap.size w w'
theorem bres_yes {P : Prop} {w w' : World} (h : P) (hb : Below w.heap.size w w') : BRes P w (.returned (.bool true)) w' := ⟨true, rfl, ⟨fun _ => h, fun _ => rfl⟩, hb⟩
theorem bres_no {P : Prop} {w w' : World} (h : ¬ P) (hb : Below w.heap.size w w') : BRes P w (.returned (.bool false)) w' := ⟨false, rfl, ⟨fun e => Bool.noConfusion e, fun p => absurd p h⟩, hb⟩

theorem inI_any (x a b : Int) (w : World) : Calls Try.prog 28 #[.int .i64 x, .int .i64 a, .int .i64 b] w fun e w' => e = .returned (.bool (inI x a b)) ∧ w = w' := by
  by_cases h1 : a ≤ x
  · by_cases h2 : x ≤ b
    · have HF : Hid (true = inI x a b) := by show _ = _; simp [inI, h1, h2]
      go_enter Try.func28, Try.ntmps28
      go_wp2
      go_ret
      exact ⟨tretb HF.out, rfl⟩
    · have HF : Hid (false = inI x a b) := by show _ = _; simp [inI, h2]
      go_enter Try.func28, Try.ntmps28
      go_wp2
      go_ret
      exact ⟨tretb HF.out, rfl⟩
  · have HF : Hid (false = inI x a b) := by show _ = _; simp [inI, h1]
    go_enter Try.func28, Try.ntmps28
    go_wp2
    go_ret
    exact ⟨tretb HF.out, rfl⟩

end Go.Proofs.Ytgmddookohkhlaa

/- A slot that has nothing: the model's. -/
namespace Go.Proofs.Ytgmddookohkhlaa
open Go.RowKit
set_option linter.unusedVariables false

set_option maxRecDepth 100000 in
set_option maxHeartbeats 2000000 in
theorem l10Zero_any (k n : Int) (s : ByteArray) (a : Option Addr) (len c : Nat) (w : World) (hs : s.size ≤ 9223372036854775807) (hlen : len ≤ 9223372036854775807) :
    Calls Try.prog 53 #[.agg #[.int .i64 k, .int .i64 n, .string s, .slice a len c]] w fun e w' => BRes (k = 0 ∧ n = 0 ∧ s.size = 0 ∧ len = 0) w e w' := by
  have hA : Below w.heap.size w (w.alloc (.cells #[.int .i64 k, .int .i64 n, .string s, .slice a len c] 53)) := (Below.refl _ _).alloc (Nat.le_refl _) _
  obtain ⟨PP, hPP⟩ : ∃ P : Prop, (k = 0 ∧ n = 0 ∧ s.size = 0 ∧ len = 0) = P := ⟨_, rfl⟩
  have HPP : Hid ((k = 0 ∧ n = 0 ∧ s.size = 0 ∧ len = 0) = PP) := hPP
  rw [hPP]
  clear hPP
  by_cases hc0 : k = 0
  · have HP0 : Hid (k = 0) := hc0
    have hk0 : (k == 0) = true := by simp [hc0]
    clear hc0
    by_cases hc1 : n = 0
    · have HP1 : Hid (n = 0) := hc1
      have hn0 : (n == 0) = true := by simp [hc1]
      clear hc1
      by_cases hc2 : s.size = 0
      · have HP2 : Hid (s.size = 0) := hc2
        have he : s.toList.isEmpty = true := (empty_iff s).2 hc2
        clear hc2
        by_cases hc3 : len = 0
        · have HP3 : Hid (len = 0) := hc3
          have hl0 : ((len : Int) == 0) = true := by simp [hc3]
          clear hc3
          have HF : Hid PP := by rw [← HPP.out]; exact ⟨(HP0.out), (HP1.out), (HP2.out), (HP3.out)⟩
          go_enter Try.func53, Try.ntmps53
          go_wp2_with fail
          go_ret
          exact bres_yes HF.out hA
        · have HF : Hid (¬ PP) := by rw [← HPP.out]; exact fun h => hc3 h.2.2.2
          have hl0 : ((len : Int) == 0) = false := by simp [hc3]
          clear hc3
          go_enter Try.func53, Try.ntmps53
          go_wp2_with fail
          go_ret
          exact bres_no HF.out hA
      · have HF : Hid (¬ PP) := by rw [← HPP.out]; exact fun h => hc2 h.2.2.1
        have he : s.toList.isEmpty = false := empty_no hc2
        clear hc2
        go_enter Try.func53, Try.ntmps53
        go_wp2_with fail
        go_ret
        exact bres_no HF.out hA
    · have HF : Hid (¬ PP) := by rw [← HPP.out]; exact fun h => hc1 h.2.1
      have hn0 : (n == 0) = false := by simp [hc1]
      clear hc1
      go_enter Try.func53, Try.ntmps53
      go_wp2_with fail
      go_ret
      exact bres_no HF.out hA
  · have HF : Hid (¬ PP) := by rw [← HPP.out]; exact fun h => hc0 h.1
    have hk0 : (k == 0) = false := by simp [hc0]
    clear hc0
    go_enter Try.func53, Try.ntmps53
    go_wp2_with fail
    go_ret
    exact bres_no HF.out hA

end Go.Proofs.Ytgmddookohkhlaa

/- A struct of the laws as data: Pat; the law's own measure, copy and comparison of it; how it is read. -/
namespace Go.Proofs.Ytgmddookohkhlaa
open Go.RowKit Go.ChangeShapes Go.WideShapes Go.Joins Go.Deep
set_option linter.unusedVariables false

def PatR : (d : Nat) → World → List Value → Tm d → Prop
  | 0, _, _, _ => False
  | d + 1, w, vs, x => ∃ v3, vs = [.int .i64 x.K, .int .i64 x.N, .string x.S, v3] ∧ RowOf 4 (PatR d) w v3 x.L

def WfPat : (d : Nat) → Tm d → Prop
  | 0, _ => False
  | d + 1, x => I64 x.K ∧ I64 x.N ∧ x.S.size ≤ maxLen ∧ WfRow (WfPat d) x.L

def szPatD : (d : Nat) → Tm d → Nat
  | 0, _ => 0
  | d + 1, x => x.S.size + (szRow (szPatD d) x.L)

theorem PatR.lasts : ∀ d, Lasts (PatR d) := by
  intro d
  induction d with
  | zero => exact fun _ _ _ _ h _ => h.elim
  | succ d ih =>
    rintro w w' vs x ⟨v3, rfl, h0⟩ hb
    exact ⟨v3, rfl, (h0.later ih hb)⟩

theorem PatR.shape (d : Nat) : ∀ w vs x, PatR d w vs x → ShPat vs := by
  cases d with
  | zero => exact fun _ _ _ h => h.elim
  | succ d =>
    rintro w vs x ⟨v3, rfl, h0⟩
    obtain ⟨q0a3, q0l3, q0c3, rfl⟩ := h0.sl
    exact ⟨_, _, _, _, _, _, rfl⟩

theorem Pat_at {d n c : Nat} {w : World} {a : Option Addr} {m : List (Tm (d + 1))} (h : RowOf 4 (PatR (d + 1)) w (.slice a n c) m) (i : Nat) (x : (Tm (d + 1))) (hx : m[i]? = some x) : ∃ (b o : Nat) (a3 : Option Addr) (c3 : Nat), a = some ⟨b, o, none⟩ ∧ w.cell? ⟨b, o + i * 4, none⟩ = some (.int .i64 x.K) ∧ w.cell? ⟨b, o + i * 4 + 1, none⟩ = some (.int .i64 x.N) ∧ w.cell? ⟨b, o + i * 4 + 2, none⟩ = some (.string x.S) ∧ w.cell? ⟨b, o + i * 4 + 3, none⟩ = some (.slice a3 x.L.length c3) ∧ RowOf 4 (PatR d) w (.slice a3 x.L.length c3) x.L := by
  obtain ⟨a', c', e, hel⟩ := h
  cases e
  obtain ⟨b, o, vs, h2, h3, h4, v3, rfl, g0⟩ := hel i x hx
  obtain ⟨a3, c3, rfl⟩ := g0.slice
  exact ⟨b, o, a3, c3, h2, h4 0 _ rfl, h4 1 _ rfl, h4 2 _ rfl, h4 3 _ rfl, g0⟩

section
variable {H : Type} {enc : TypeId × Value → H} {W : World} {base : Nat} {spare : Nat → Bool} {held : Bool}

end

end Go.Proofs.Ytgmddookohkhlaa

/- A term that is right, and the terms of a list one by one. -/
namespace Go.Proofs.Ytgmddookohkhlaa
open Go.RowKit
set_option linter.unusedVariables false

/-- A term that is right. -/
def RightT (d : Nat) (t : Tm (d + 1)) : Prop := Right d t.K t.N t.S t.L 8 300
theorem specTm_any (d : Nat) (vs : List Value) (t : Tm (d + 1)) (w : World) (hr : TmR d w vs t) (hw : WfTm d t) :
    Calls Try.prog 54 #[.agg vs.toArray] w fun e w' => ∃ b : Bool, e = .returned (.bool b) ∧ (b = true ↔ RightT d t) ∧ Below w.heap.size w w' := by
  obtain ⟨lv, rfl, h⟩ := hr
  exact specTermOk_any d t.K t.N t.S lv t.L w h hw.2.2.2 (by have := hw.2.2.1; unfold maxLen at this; omega)

theorem terms_at {d : Nat} {w : World} {a : Option Addr} {n c : Nat} {l : List (Tm (d + 1))} (h : RdL (d + 1) w (.slice a n c) l) (i : Nat) (t : Tm (d + 1)) (ht : l[i]? = some t) :
    ∃ b o la ll lc, a = some ⟨b, o, none⟩ ∧ w.cell? ⟨b, o + i * 4, none⟩ = some (.int .i64 t.K) ∧ w.cell? ⟨b, o + i * 4 + 1, none⟩ = some (.int .i64 t.N) ∧ w.cell? ⟨b, o + i * 4 + 2, none⟩ = some (.string t.S) ∧ w.cell? ⟨b, o + i * 4 + 3, none⟩ = some (.slice la ll lc) ∧ TmR d w [.int .i64 t.K, .int .i64 t.N, .string t.S, .slice la ll lc] t := by
  obtain ⟨a', c', e, hel⟩ := h
  cases e
  obtain ⟨b, o, lv, h1, ⟨q0, q1, q2, q3⟩, h2⟩ := hel i t ht
  obtain ⟨la, ll, lc, rfl⟩ := h2.shape
  exact ⟨b, o, la, ll, lc, h1, q0, q1, q2, q3, _, rfl, h2⟩

theorem wf_term {d : Nat} {l : List (Tm (d + 1))} (h : WfL (d + 1) l) {i : Nat} {t : Tm (d + 1)} (ht : l[i]? = some t) : WfTm d t := h.2 t (List.mem_of_getElem? ht)

theorem len_max {s : ByteArray} (h : s.size ≤ maxLen) : s.size ≤ 9223372036854775807 := by unfold maxLen at h; omega

end Go.Proofs.Ytgmddookohkhlaa
