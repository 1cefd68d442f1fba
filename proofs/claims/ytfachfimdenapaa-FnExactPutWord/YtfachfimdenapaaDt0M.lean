/- Data of the later chapters: terms as parts of structs, lists of numbers; the law's own measure, copy and comparison of them. -/
import Derived.Test.YtfachfimdenapaaTmM
import Derived.Test.YtfachfimdenapaaOkM
import Derived.Test.YtfachfimdenapaaTReadM
import Derived.BigQuiet
namespace Go.Proofs.Ytfachfimdenapaa
open Go.RowKit Go.ChangeShapes Go.WideShapes Go.Joins Go.Deep
set_option linter.unusedVariables false

theorem RowOf.sl {α : Type} {k : Nat} {R : World → List Value → α → Prop} {w : World} {v : Value} {xs : List α} (h : RowOf k R w v xs) : ∃ a l c, v = .slice a l c := by
  obtain ⟨a, c, e, _⟩ := h
  exact ⟨a, _, c, e⟩
theorem OwnRow.sl {α : Type} {k : Nat} {T : TypeId} {O : World → List Value → α → List Nat → Prop} {w : World} {v : Value} {xs : List α} {fp : List Nat} (h : OwnRow k T O w v xs fp) : ∃ a l c, v = .slice a l c := by
  rcases h with ⟨_, _, a, c, rfl⟩ | ⟨g, c, cur, fps, rfl, _⟩
  · exact ⟨_, _, _, rfl⟩
  · exact ⟨_, _, _, rfl⟩

theorem RdL.len1 {d : Nat} {w : World} {v : Value} {ts : List (Tm (d + 1))} (h : RdL (d + 1) w v ts) : ∃ a c, v = .slice a ts.length c := by
  obtain ⟨a, c, e, _⟩ := h
  exact ⟨a, c, e⟩

/-- A term as a part of something. -/
def TmR (d : Nat) (w : World) (vs : List Value) (t : Tm (d + 1)) : Prop := ∃ lv, vs = [.int .i64 t.K, .int .i64 t.N, .string t.S, lv] ∧ RdL d w lv t.L
def TmO (d : Nat) (w : World) (vs : List Value) (t : Tm (d + 1)) (fp : List Nat) : Prop := ∃ lv, vs = [.int .i64 t.K, .int .i64 t.N, .string t.S, lv] ∧ OwnL d w lv t.L fp
def WfTm (d : Nat) (t : Tm (d + 1)) : Prop := I64 t.K ∧ I64 t.N ∧ t.S.size ≤ maxLen ∧ WfL d t.L
def szTm (d : Nat) (t : Tm (d + 1)) : Nat := t.S.size + szL d t.L
def ShTerm (vs : List Value) : Prop := ∃ (i0 i1 : Int) (s2 : ByteArray) (a3 : Option Addr) (l3 c3 : Nat), vs = [.int .i64 i0, .int .i64 i1, .string s2, .slice a3 l3 c3]

theorem TmR.lasts (d : Nat) : Lasts (TmR d) := by
  rintro w w' vs b ⟨lv, rfl, h⟩ hb
  exact ⟨lv, rfl, h.later hb⟩
theorem TmO.lasts (d : Nat) : LastsO (TmO d) := by
  rintro w w' vs b fp ⟨lv, rfl, h⟩ hb
  exact ⟨lv, rfl, h.frame hb⟩
theorem TmO.reads (d : Nat) : Reads (TmO d) (TmR d) := by
  rintro w vs b fp ⟨lv, rfl, h⟩
  exact ⟨lv, rfl, h.rd⟩
theorem TmR.shape (d : Nat) : ∀ w vs b, TmR d w vs b → ShTerm vs := by
  rintro w vs b ⟨lv, rfl, h⟩
  obtain ⟨a, l, c, rfl⟩ := h.shape
  exact ⟨_, _, _, _, _, _, rfl⟩
theorem TmO.shape (d : Nat) : ∀ w vs b fp, TmO d w vs b fp → ShTerm vs := fun w vs b fp h => TmR.shape d w vs b (TmO.reads d w vs b fp h)

theorem szTm_any (d : Nat) : SzEl 11 (TmR d) (WfTm d) (szTm d) := by
  rintro vs x left w ⟨lv, rfl, h⟩ ⟨_, _, w3, w4⟩ h0 h1
  exact szTerm_of d (szTermS_any d) x.K x.N x.S lv x.L left w h w4 w3 h0 h1
theorem toTm_any (d : Nat) : ToEl 13 (TmR d) (TmO d) (WfTm d) (szTm d) := by
  rintro vs x w ⟨lv, rfl, h⟩ ⟨_, _, w3, w4⟩ hz
  have hz' : x.S.size + szL d x.L ≤ 1048576 := hz
  refine (toTerm_of d (toTermS_any d) x.K x.N x.S lv x.L w h w4 (by omega)).mono ?_
  rintro e w' ⟨a, l, c, fp, rfl, ho, hf, hb⟩
  exact ⟨[.int .i64 x.K, .int .i64 x.N, .string x.S, .slice a l c], fp, rfl, ⟨_, rfl, ho⟩, hf, hb⟩
theorem eqTm_any (d : Nat) : EqEl 15 (TmR d) (WfTm d) := by
  rintro vs1 vs2 x w ⟨lv, rfl, h⟩ ⟨lv', rfl, h'⟩ ⟨_, _, w3, w4⟩
  exact eqTerm_of d (eqTermS_any d) x.K x.N x.S lv lv' x.L w h h' w4

theorem OwnL.sl : ∀ {d : Nat} {w : World} {v : Value} {ts : List (Tm d)} {fp : List Nat}, OwnL d w v ts fp → ∃ a l c, v = .slice a l c := fun h => h.rd.shape

/-- Numbers. -/
def InR (w : World) (vs : List Value) (n : Int) : Prop := vs = [.int .i64 n]
def InO (w : World) (vs : List Value) (n : Int) (fp : List Nat) : Prop := vs = [.int .i64 n] ∧ fp = []
theorem InR.lasts : Lasts InR := fun _ _ _ _ h _ => h
theorem InO.lasts : LastsO InO := fun _ _ _ _ _ h _ => h
theorem InO.reads : Reads InO InR := fun _ _ _ _ h => h.1
def szI (n : Int) : Nat := 0

def TellI (w : World) (v : Value) (l : List Int) : Prop := ∃ a c, v = .slice a l.length c ∧ ∀ (i : Nat) (s : Int), l[i]? = some s → ∃ b o, a = some ⟨b, o, none⟩ ∧ w.cell? ⟨b, o + i, none⟩ = some (.int .i64 s)
theorem row_tellI {w : World} {v : Value} {l : List Int} (h : RowOf 1 InR w v l) : TellI w v l := by
  obtain ⟨a, c, rfl, h1⟩ := h
  refine ⟨a, c, rfl, fun i s hs => ?_⟩
  obtain ⟨b, o, vs, h2, h3, h4, rfl⟩ := h1 i s hs
  have := h4 0 _ rfl
  rw [Nat.mul_one, Nat.add_zero] at this
  exact ⟨b, o, h2, this⟩

theorem szI_sum (xs : List Int) : szRow szI xs = xs.length := by
  unfold szRow
  have : (xs.map szI).sum = 0 := by
    induction xs with
    | nil => rfl
    | cons x xs ih => simp [szI, ih]
  omega

theorem Try.infoInt : (Try.prog.info? 3).map (fun i => (i.zero, i.size, i.bytes)) = some (some (.int .i64 0), 1, 8) := by kernel_rfl

theorem lft_neg (l : Int) (n : Nat) (h : lft l n < 0) : lft l n = -1 := by
  unfold lft at h ⊢
  by_cases q : (n : Int) ≤ l
  · rw [if_pos q] at h; omega
  · rw [if_neg q]

theorem Try.cells4 : Try.prog.cellsOf 4 = 1 := by kernel_rfl

section
variable {H : Type} {enc : TypeId × Value → H} {W : World} {base : Nat} {spare : Nat → Bool} {held : Bool}

theorem read_tm {m d : Nat} (hd : m ≤ d) {cs : List Value} {x : DataW H × List MemPlace} (h : DataW.trod enc Try.prog W base spare held m 24 cs = some x) (hl : cs.length = 4) : ∃ t : Tm (d + 1), TmR d W cs t ∧ WfTm d t := by
  obtain ⟨c0, c1, c2, c3, rfl⟩ : ∃ c0 c1 c2 c3, cs = [c0, c1, c2, c3] := by
    match cs, hl with
    | [c0, c1, c2, c3], _ => exact ⟨c0, c1, c2, c3, rfl⟩
  obtain ⟨m', k, l, s, y, rfl, rfl, rfl, rfl, hk, hn, hs, h3⟩ := read_four h
  obtain ⟨ts, hT, wT⟩ := read_terms m' d (by omega) c3 y h3
  exact ⟨((k, l, s, ts) : Int × Int × ByteArray × List (Tm d)), ⟨_, rfl, hT⟩, hk, hn, hs, wT⟩
end

end Go.Proofs.Ytfachfimdenapaa

/- A struct of the laws as data: Send; the law's own measure, copy and comparison of it; how it is read. -/
namespace Go.Proofs.Ytfachfimdenapaa
open Go.RowKit Go.ChangeShapes Go.WideShapes Go.Joins Go.Deep
set_option linter.unusedVariables false

structure DSend (d : Nat) where
  To : Tm (d + 1)
  T : Tm (d + 1)


def SendR (d : Nat) (w : World) (vs : List Value) (x : DSend d) : Prop := ∃ v0 v1 v2 v3 v4 v5 v6 v7, vs = [v0, v1, v2, v3, v4, v5, v6, v7] ∧ TmR d w [v0, v1, v2, v3] x.To ∧ TmR d w [v4, v5, v6, v7] x.T

def SendO (d : Nat) (w : World) (vs : List Value) (x : DSend d) (fp : List Nat) : Prop := ∃ v0 v1 v2 v3 v4 v5 v6 v7 f0 f1, vs = [v0, v1, v2, v3, v4, v5, v6, v7] ∧ fp = f0 ++ (f1) ∧ TmO d w [v0, v1, v2, v3] x.To f0 ∧ TmO d w [v4, v5, v6, v7] x.T f1

def WfSend (d : Nat) (x : DSend d) : Prop := WfTm d x.To ∧ WfTm d x.T

def szSendD (d : Nat) (x : DSend d) : Nat := szTm d x.To + (szTm d x.T)

theorem SendR.lasts (d : Nat) : Lasts (SendR d) := by
  rintro w w' vs x ⟨v0, v1, v2, v3, v4, v5, v6, v7, rfl, h0, h1⟩ hb
  exact ⟨v0, v1, v2, v3, v4, v5, v6, v7, rfl, (TmR.lasts d _ _ _ _ h0 hb), (TmR.lasts d _ _ _ _ h1 hb)⟩

theorem SendO.lasts (d : Nat) : LastsO (SendO d) := by
  rintro w w' vs x fp ⟨v0, v1, v2, v3, v4, v5, v6, v7, f0, f1, rfl, rfl, h0, h1⟩ hb
  exact ⟨v0, v1, v2, v3, v4, v5, v6, v7, _, _, rfl, rfl, TmO.lasts d _ _ _ _ _ h0 fun j hj => hb j (List.mem_append_left _ hj), TmO.lasts d _ _ _ _ _ h1 fun j hj => hb j (List.mem_append_right _ (hj))⟩

theorem SendO.reads (d : Nat) : Reads (SendO d) (SendR d) := by
  rintro w vs x fp ⟨v0, v1, v2, v3, v4, v5, v6, v7, f0, f1, rfl, rfl, h0, h1⟩
  exact ⟨v0, v1, v2, v3, v4, v5, v6, v7, rfl, (TmO.reads d _ _ _ _ h0), (TmO.reads d _ _ _ _ h1)⟩

theorem SendR.shape (d : Nat) : ∀ w vs x, SendR d w vs x → ShSend vs := by
  rintro w vs x ⟨v0, v1, v2, v3, v4, v5, v6, v7, rfl, h0, h1⟩
  obtain ⟨q0i0, q0i1, q0s2, q0a3, q0l3, q0c3, esh⟩ := TmR.shape d _ _ _ h0
  cases esh
  obtain ⟨q1i4, q1i5, q1s6, q1a7, q1l7, q1c7, esh⟩ := TmR.shape d _ _ _ h1
  cases esh
  exact ⟨_, _, _, _, _, _, _, _, _, _, _, _, rfl⟩

theorem SendO.shape (d : Nat) : ∀ w vs x fp, SendO d w vs x fp → ShSend vs := fun w vs x fp h => SendR.shape d w vs x (SendO.reads d w vs x fp h)

set_option maxHeartbeats 4000000 in
theorem eqSend_any (d : Nat) : EqEl 43 (SendR d) (WfSend d) := by
  rintro vs1 vs2 x w ⟨v0, v1, v2, v3, v4, v5, v6, v7, rfl, h0, h1⟩ ⟨v0z, v1z, v2z, v3z, v4z, v5z, v6z, v7z, rfl, k0, k1⟩ ⟨wTo, wT⟩
  obtain ⟨i0, i1, s2, a3, l3, c3, esh⟩ := TmR.shape d _ _ _ h0
  cases esh
  obtain ⟨i4, i5, s6, a7, l7, c7, esh⟩ := TmR.shape d _ _ _ h1
  cases esh
  obtain ⟨zi0, zi1, zs2, za3, zl3, zc3, esz⟩ := TmR.shape d _ _ _ k0
  cases esz
  obtain ⟨zi4, zi5, zs6, za7, zl7, zc7, esz⟩ := TmR.shape d _ _ _ k1
  cases esz
  obtain ⟨W, hW⟩ : ∃ W, W = (w.alloc (Obj.cells #[.int .i64 i0, .int .i64 i1, .string s2, .slice a3 l3 c3, .int .i64 i4, .int .i64 i5, .string s6, .slice a7 l7 c7] 65)).alloc (Obj.cells #[.int .i64 zi0, .int .i64 zi1, .string zs2, .slice za3 zl3 zc3, .int .i64 zi4, .int .i64 zi5, .string zs6, .slice za7 zl7 zc7] 65) := ⟨_, rfl⟩
  have hA : Below w.heap.size w W := by rw [hW]; exact ((Below.refl _ _).alloc (Nat.le_refl _) _).alloc (by simp) _
  have n1 : W.heap[w.heap.size]? = some (Obj.cells #[.int .i64 i0, .int .i64 i1, .string s2, .slice a3 l3 c3, .int .i64 i4, .int .i64 i5, .string s6, .slice a7 l7 c7] 65 (0, 0)) := by rw [hW, Below.heap_alloc _ _ _ (by simp)]; exact heap_alloc_new w _
  have n2 : W.heap[w.heap.size + 1]? = some (Obj.cells #[.int .i64 zi0, .int .i64 zi1, .string zs2, .slice za3 zl3 zc3, .int .i64 zi4, .int .i64 zi5, .string zs6, .slice za7 zl7 zc7] 65 (0, 0)) := by rw [hW]; have := heap_alloc_new (w.alloc (Obj.cells #[.int .i64 i0, .int .i64 i1, .string s2, .slice a3 l3 c3, .int .i64 i4, .int .i64 i5, .string s6, .slice a7 l7 c7] 65)) (Obj.cells #[.int .i64 zi0, .int .i64 zi1, .string zs2, .slice za3 zl3 zc3, .int .i64 zi4, .int .i64 zi5, .string zs6, .slice za7 zl7 zc7] 65); simpa using this
  have H0 : Hid (∀ V : World, Below w.heap.size w V → _) := fun V hV => eqTm_any d [.int .i64 i0, .int .i64 i1, .string s2, .slice a3 l3 c3] [.int .i64 zi0, .int .i64 zi1, .string zs2, .slice za3 zl3 zc3] x.To V (TmR.lasts d _ _ _ _ h0 hV) (TmR.lasts d _ _ _ _ k0 hV) wTo
  have H4 : Hid (∀ V : World, Below w.heap.size w V → _) := fun V hV => eqTm_any d [.int .i64 i4, .int .i64 i5, .string s6, .slice a7 l7 c7] [.int .i64 zi4, .int .i64 zi5, .string zs6, .slice za7 zl7 zc7] x.T V (TmR.lasts d _ _ _ _ h1 hV) (TmR.lasts d _ _ _ _ k1 hV) wT
  have HW : Hid (W = _) := hW
  have HN : Hid (Below w.heap.size w W ∧ _ ∧ _) := ⟨hA, n1, n2⟩
  clear n1 n2 h0 k0 wTo h1 k1 wT
  clear hA
  have hC := H0.out W HN.out.1
  rw [hW] at hC
  clear hW
  go_enter Try.func43, Try.ntmps43
  go_wp2_with fail
  refine hC.mono ?_
  clear hC
  rintro e w0 ⟨rfl, hb0⟩
  rw [← HW.out] at hb0
  have HN0 : Hid (Below w.heap.size w w0 ∧ _ ∧ _) := ⟨HN.out.1.trans (hb0.mono HN.out.1.size), (hb0.block _ (lt_row HN.out.2.1)).trans HN.out.2.1, (hb0.block _ (lt_row HN.out.2.2)).trans HN.out.2.2⟩
  clear hb0
  have f4 : w0.cell? ⟨w.heap.size, 4, none⟩ = some (.int .i64 i4) := by rw [cell_of_row w0 _ 4 _ _ _ HN0.out.2.1]; rfl
  have g4 : w0.cell? ⟨w.heap.size + 1, 4, none⟩ = some (.int .i64 zi4) := by rw [cell_of_row w0 _ 4 _ _ _ HN0.out.2.2]; rfl
  have f5 : w0.cell? ⟨w.heap.size, 5, none⟩ = some (.int .i64 i5) := by rw [cell_of_row w0 _ 5 _ _ _ HN0.out.2.1]; rfl
  have g5 : w0.cell? ⟨w.heap.size + 1, 5, none⟩ = some (.int .i64 zi5) := by rw [cell_of_row w0 _ 5 _ _ _ HN0.out.2.2]; rfl
  have f6 : w0.cell? ⟨w.heap.size, 6, none⟩ = some (.string s6) := by rw [cell_of_row w0 _ 6 _ _ _ HN0.out.2.1]; rfl
  have g6 : w0.cell? ⟨w.heap.size + 1, 6, none⟩ = some (.string zs6) := by rw [cell_of_row w0 _ 6 _ _ _ HN0.out.2.2]; rfl
  have f7 : w0.cell? ⟨w.heap.size, 7, none⟩ = some (.slice a7 l7 c7) := by rw [cell_of_row w0 _ 7 _ _ _ HN0.out.2.1]; rfl
  have g7 : w0.cell? ⟨w.heap.size + 1, 7, none⟩ = some (.slice za7 zl7 zc7) := by rw [cell_of_row w0 _ 7 _ _ _ HN0.out.2.2]; rfl
  have hC := H4.out w0 HN0.out.1
  go_wp2_with fail
  refine hC.mono ?_
  clear hC f4 g4 f5 g5 f6 g6 f7 g7
  rintro e w4 ⟨rfl, hb4⟩
  have HN4 : Hid (Below w.heap.size w w4 ∧ _ ∧ _) := ⟨HN0.out.1.trans (hb4.mono HN0.out.1.size), (hb4.block _ (lt_row HN0.out.2.1)).trans HN0.out.2.1, (hb4.block _ (lt_row HN0.out.2.2)).trans HN0.out.2.2⟩
  clear hb4
  go_wp2
  go_ret
  exact ⟨rfl, HN4.out.1⟩

theorem eqSendS_any (d : Nat) : EqLs 21 8 (SendR d) (WfSend d) := eqSendS_of _ _ (SendR.lasts d) (SendR.shape d) (eqSend_any d)

theorem Send_at {d n c : Nat} {w : World} {a : Option Addr} {m : List (DSend d)} (h : RowOf 8 (SendR d) w (.slice a n c) m) (i : Nat) (x : (DSend d)) (hx : m[i]? = some x) : ∃ (b o : Nat) (i0 : Int) (i1 : Int) (s2 : ByteArray) (a3 : Option Addr) (l3 c3 : Nat) (i4 : Int) (i5 : Int) (s6 : ByteArray) (a7 : Option Addr) (l7 c7 : Nat), a = some ⟨b, o, none⟩ ∧ w.cell? ⟨b, o + i * 8, none⟩ = some (.int .i64 i0) ∧ w.cell? ⟨b, o + i * 8 + 1, none⟩ = some (.int .i64 i1) ∧ w.cell? ⟨b, o + i * 8 + 2, none⟩ = some (.string s2) ∧ w.cell? ⟨b, o + i * 8 + 3, none⟩ = some (.slice a3 l3 c3) ∧ w.cell? ⟨b, o + i * 8 + 4, none⟩ = some (.int .i64 i4) ∧ w.cell? ⟨b, o + i * 8 + 5, none⟩ = some (.int .i64 i5) ∧ w.cell? ⟨b, o + i * 8 + 6, none⟩ = some (.string s6) ∧ w.cell? ⟨b, o + i * 8 + 7, none⟩ = some (.slice a7 l7 c7) ∧ TmR d w [.int .i64 i0, .int .i64 i1, .string s2, .slice a3 l3 c3] x.To ∧ TmR d w [.int .i64 i4, .int .i64 i5, .string s6, .slice a7 l7 c7] x.T := by
  obtain ⟨a', c', e, hel⟩ := h
  cases e
  obtain ⟨b, o, vs, h2, h3, h4, v0, v1, v2, v3, v4, v5, v6, v7, rfl, g0, g1⟩ := hel i x hx
  obtain ⟨i0, i1, s2, a3, l3, c3, esh⟩ := TmR.shape d _ _ _ g0
  cases esh
  obtain ⟨i4, i5, s6, a7, l7, c7, esh⟩ := TmR.shape d _ _ _ g1
  cases esh
  exact ⟨b, o, i0, i1, s2, a3, l3, c3, i4, i5, s6, a7, l7, c7, h2, h4 0 _ rfl, h4 1 _ rfl, h4 2 _ rfl, h4 3 _ rfl, h4 4 _ rfl, h4 5 _ rfl, h4 6 _ rfl, h4 7 _ rfl, g0, g1⟩

section
variable {H : Type} {enc : TypeId × Value → H} {W : World} {base : Nat} {spare : Nat → Bool} {held : Bool}

end

end Go.Proofs.Ytfachfimdenapaa

/- Searches and questions over lists, as data. -/
namespace Go.Proofs.Ytfachfimdenapaa
open Go.RowKit
set_option linter.unusedVariables false

/-- The first place of which p holds; -1: there is none. -/
def fidx {α : Type} (p : α → Bool) (l : List α) : Int := match l.findIdx? p with | some i => (i : Int) | none => -1

theorem fidx_hit {α : Type} {p : α → Bool} {l : List α} {k : Nat} {x : α} (hx : l[k]? = some x) (hp : p x = true) (hn : ∀ (j : Nat) (y : α), j < k → l[j]? = some y → p y = false) : fidx p l = k := by
  have : l.findIdx? p = some k := by
    rw [List.findIdx?_eq_some_iff_getElem]
    obtain ⟨h1, h2⟩ := List.getElem?_eq_some_iff.1 hx
    refine ⟨h1, by rw [h2]; exact hp, fun j hj => ?_⟩
    have := hn j l[j] hj (List.getElem?_eq_getElem (by omega))
    simp [this]
  unfold fidx
  rw [this]
theorem fidx_none {α : Type} {p : α → Bool} {l : List α} (hn : ∀ (j : Nat) (y : α), j < l.length → l[j]? = some y → p y = false) : fidx p l = -1 := by
  have : l.findIdx? p = none := by
    rw [List.findIdx?_eq_none_iff]
    intro x hx
    obtain ⟨j, hj, rfl⟩ := List.mem_iff_getElem.1 hx
    exact hn j _ hj (List.getElem?_eq_getElem hj)
  unfold fidx
  rw [this]
theorem fidx_cases {α : Type} (p : α → Bool) (l : List α) : (fidx p l = -1 ∧ ∀ x ∈ l, p x = false) ∨ ∃ (k : Nat) (x : α), fidx p l = k ∧ l[k]? = some x ∧ p x = true ∧ ∀ (j : Nat) (y : α), j < k → l[j]? = some y → p y = false := by
  cases h : l.findIdx? p with
  | none =>
    refine .inl ⟨by unfold fidx; rw [h], fun x hx => ?_⟩
    exact (List.findIdx?_eq_none_iff.1 h) x hx
  | some k =>
    obtain ⟨h1, h2, h3⟩ := List.findIdx?_eq_some_iff_getElem.1 h
    refine .inr ⟨k, l[k], by unfold fidx; rw [h], List.getElem?_eq_getElem h1, h2, fun j y hj hy => ?_⟩
    obtain ⟨q1, q2⟩ := List.getElem?_eq_some_iff.1 hy
    have := h3 j hj
    rw [q2] at this
    simpa using this

theorem later_step {α : Type} {p : α → Bool} {l : List α} {k : Nat} {x : α} (hx : l[k]? = some x) (hp : p x = false) (hn : ∀ (j : Nat) (y : α), j < k → l[j]? = some y → p y = false) : ∀ (j : Nat) (y : α), j < k + 1 → l[j]? = some y → p y = false := fun j y hj hy => by
  rcases Nat.lt_or_ge j k with q | q
  · exact hn j y q hy
  · obtain rfl : j = k := by omega
    rw [hx] at hy
    cases hy
    exact hp

/-- p holds at every place. -/
def allI {α : Type} (p : Nat → α → Bool) (l : List α) : Bool := (List.range l.length).all fun i => match l[i]? with | some x => p i x | none => true

theorem allI_no {α : Type} {p : Nat → α → Bool} {l : List α} {k : Nat} {x : α} (hx : l[k]? = some x) (hp : p k x = false) : allI p l = false := by
  unfold allI
  rw [List.all_eq_false]
  exact ⟨k, List.mem_range.2 (List.getElem?_eq_some_iff.1 hx).1, by rw [hx]; simp [hp]⟩
theorem allI_yes {α : Type} {p : Nat → α → Bool} {l : List α} (hn : ∀ (j : Nat) (y : α), j < l.length → l[j]? = some y → p j y = true) : allI p l = true := by
  unfold allI
  rw [List.all_eq_true]
  intro i hi
  have hi' := List.mem_range.1 hi
  rw [List.getElem?_eq_getElem hi']
  exact hn i _ hi' (List.getElem?_eq_getElem hi')
theorem allI_step {α : Type} {p : Nat → α → Bool} {l : List α} {k : Nat} {x : α} (hx : l[k]? = some x) (hp : p k x = true) (hn : ∀ (j : Nat) (y : α), j < k → l[j]? = some y → p j y = true) : ∀ (j : Nat) (y : α), j < k + 1 → l[j]? = some y → p j y = true := fun j y hj hy => by
  rcases Nat.lt_or_ge j k with q | q
  · exact hn j y q hy
  · obtain rfl : j = k := by omega
    rw [hx] at hy
    cases hy
    exact hp
theorem allI_iff {α : Type} {p : Nat → α → Bool} {l : List α} : allI p l = true ↔ ∀ (j : Nat) (y : α), l[j]? = some y → p j y = true := by
  constructor
  · intro h j y hy
    cases e : p j y with
    | true => rfl
    | false => rw [allI_no hy e] at h; cases h
  · intro h; exact allI_yes fun j y _ hy => h j y hy

theorem str_same0 {a b : ByteArray} (h : a.toList = b.toList) : a = b := by
  rw [ByteArray.toList_eq, ByteArray.toList_eq] at h
  exact ByteArray.ext (Array.toList_inj.mp h)
theorem str_beq (a b : ByteArray) : (a.toList == b.toList) = decide (a = b) := by
  by_cases h : a = b
  · subst h; simp
  · rw [decide_eq_false h, beq_eq_false_iff_ne]; exact fun e => h (str_same0 e)

/-- That a number lies between two. -/
def inI (x a b : Int) : Bool := decide (a ≤ x) && decide (x ≤ b)

theorem szL_len {d : Nat} (ts : List (Tm (d + 1))) : ts.length ≤ szL (d + 1) ts := Nat.le_add_right _ _
theorem szRow_len {α : Type} (f : α → Nat) (xs : List α) : xs.length ≤ szRow f xs := Nat.le_add_right _ _

end Go.Proofs.Ytfachfimdenapaa

/- The model's test of a number between two. -/
namespace Go.Proofs.Ytfachfimdenapaa
open Go.RowKit
set_option linter.unusedVariables false

theorem tretb {a b : Bool} (h : a = b) : Ending.returned (.bool a) = .returned (.bool b) := by rw [h]

/-- An answer that is a bool: just if P. -/
def BRes (P : Prop) (w : World) (e : Ending) (w' : World) : Prop := ∃ b : Bool, e = .returned (.bool b) ∧ (b = true ↔ P) ∧ Below w.heap.size w w'
theorem bres_yes {P : Prop} {w w' : World} (h : P) (hb : Below w.heap.size w w') : BRes P w (.returned (.bool true)) w' := ⟨true, rfl, ⟨fun _ => h, fun _ => rfl⟩, hb⟩
theorem bres_no {P : Prop} {w w' : World} (h : ¬ P) (hb : Below w.heap.size w w') : BRes P w (.returned (.bool false)) w' := ⟨false, rfl, ⟨fun e => Bool.noConfusion e, fun p => absurd p h⟩, hb⟩

theorem inI_any (x a b : Int) (w : World) : Calls Try.prog 26 #[.int .i64 x, .int .i64 a, .int .i64 b] w fun e w' => e = .returned (.bool (inI x a b)) ∧ w = w' := by
  by_cases h1 : a ≤ x
  · by_cases h2 : x ≤ b
    · have HF : Hid (true = inI x a b) := by show _ = _; simp [inI, h1, h2]
      go_enter Try.func26, Try.ntmps26
      go_wp2
      go_ret
      exact ⟨tretb HF.out, rfl⟩
    · have HF : Hid (false = inI x a b) := by show _ = _; simp [inI, h2]
      go_enter Try.func26, Try.ntmps26
      go_wp2
      go_ret
      exact ⟨tretb HF.out, rfl⟩
  · have HF : Hid (false = inI x a b) := by show _ = _; simp [inI, h1]
    go_enter Try.func26, Try.ntmps26
    go_wp2
    go_ret
    exact ⟨tretb HF.out, rfl⟩

end Go.Proofs.Ytfachfimdenapaa

/- A term that is right, and the terms of a list one by one. -/
namespace Go.Proofs.Ytfachfimdenapaa
open Go.RowKit
set_option linter.unusedVariables false

/-- A term that is right. -/
def RightT (d : Nat) (t : Tm (d + 1)) : Prop := Right d t.K t.N t.S t.L 8 300
theorem specTm_any (d : Nat) (vs : List Value) (t : Tm (d + 1)) (w : World) (hr : TmR d w vs t) (hw : WfTm d t) :
    Calls Try.prog 25 #[.agg vs.toArray] w fun e w' => ∃ b : Bool, e = .returned (.bool b) ∧ (b = true ↔ RightT d t) ∧ Below w.heap.size w w' := by
  obtain ⟨lv, rfl, h⟩ := hr
  exact specTermOk_any d t.K t.N t.S lv t.L w h hw.2.2.2 (by have := hw.2.2.1; unfold maxLen at this; omega)

theorem terms_at {d : Nat} {w : World} {a : Option Addr} {n c : Nat} {l : List (Tm (d + 1))} (h : RdL (d + 1) w (.slice a n c) l) (i : Nat) (t : Tm (d + 1)) (ht : l[i]? = some t) :
    ∃ b o la ll lc, a = some ⟨b, o, none⟩ ∧ w.cell? ⟨b, o + i * 4, none⟩ = some (.int .i64 t.K) ∧ w.cell? ⟨b, o + i * 4 + 1, none⟩ = some (.int .i64 t.N) ∧ w.cell? ⟨b, o + i * 4 + 2, none⟩ = some (.string t.S) ∧ w.cell? ⟨b, o + i * 4 + 3, none⟩ = some (.slice la ll lc) ∧ TmR d w [.int .i64 t.K, .int .i64 t.N, .string t.S, .slice la ll lc] t := by
  obtain ⟨a', c', e, hel⟩ := h
  cases e
  obtain ⟨b, o, lv, h1, ⟨q0, q1, q2, q3⟩, h2⟩ := hel i t ht
  obtain ⟨la, ll, lc, rfl⟩ := h2.shape
  exact ⟨b, o, la, ll, lc, h1, q0, q1, q2, q3, _, rfl, h2⟩

theorem wf_term {d : Nat} {l : List (Tm (d + 1))} (h : WfL (d + 1) l) {i : Nat} {t : Tm (d + 1)} (ht : l[i]? = some t) : WfTm d t := h.2 t (List.mem_of_getElem? ht)

theorem len_max {s : ByteArray} (h : s.size ≤ maxLen) : s.size ≤ 9223372036854775807 := by unfold maxLen at h; omega

end Go.Proofs.Ytfachfimdenapaa
