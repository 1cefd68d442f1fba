/- The text of a term: the program's writing of it. -/
import Derived.Test.YtickaplokjdijaaDoorDr1
import Derived.Test.YtickaplokjdijaaDoorIFit
import Derived.Lib.FrozenHead
namespace Go.Proofs.YtickaplokjdijaaDoor
open Go.RowKit
set_option linter.unusedVariables false

/-- A builder of the call's own, and what it holds. -/
def Bd (w0 : World) (b : Nat) (l : List UInt8) (w : World) : Prop := Lib.IsBuilderF 62 5 w0.heap.size b (Lib.byteCells l) w ∧ Below w0.heap.size w0 w

theorem rowF_later {w w' : World} {B e n : Nat} {v : Value} {xs : List Value} (h : w.ownsRowF B e 1 v n xs) (hb : Below w.heap.size w w') : w'.ownsRowF B e 1 v n xs := by
  obtain ⟨h1, h2⟩ := h
  refine ⟨h1, ?_⟩
  rcases h2 with h2 | ⟨g, c, cur, fz, e1, e2, e3, e4⟩
  · exact .inl h2
  · exact .inr ⟨g, c, cur, fz, e1, e2, (hb.block g ((Array.getElem?_eq_some_iff.1 e3).1)).trans e3, e4⟩

theorem Bd.later {w0 : World} {b : Nat} {l : List UInt8} {w w' : World} (h : Bd w0 b l w) (hb : Below w.heap.size w w') : Bd w0 b l w' := by
  obtain ⟨h1, h2⟩ := h
  refine ⟨?_, h2.trans (hb.mono h2.size)⟩
  rcases h1 with ⟨hB, v, q1, q2, q3⟩ | ⟨hB, v, q1, q2, q3⟩
  · exact .inl ⟨hB, v, (hb.block b ((Array.getElem?_eq_some_iff.1 q1).1)).trans q1, rowF_later q2 hb, q3⟩
  · exact .inr ⟨hB, v, (hb.block b ((Array.getElem?_eq_some_iff.1 q1).1)).trans q1, rowF_later q2 hb, q3⟩

/-- Boxes other than the builder, and that are no bytes, are kept. -/
def BoxKept (b : Nat) (w w' : World) : Prop := ∀ (g : Nat) (cs : Array Value) (T : TypeId) (fz : Nat × Nat), g ≠ b → T ≠ 5 → w.heap[g]? = some (.cells cs T fz) → w'.heap[g]? = some (.cells cs T fz)

theorem write_any (w0 : World) (b : Nat) (l : List UInt8) (s : ByteArray) (w : World) (h : Bd w0 b l w) (hl : l.length + s.size ≤ 140737488355328) :
    Calls Tryd.prog 33 #[.pointer (some ⟨b, 0, none⟩), .string s] w fun e w' => e = .returned (.tuple #[.int .i64 s.size, .nilIface]) ∧ Hid (Bd w0 b (l ++ s.data.toList) w') ∧ Hid (BoxKept b w w') := by
  refine (Tryd.Builder_WriteString_k w0.heap.size b (Lib.byteCells l) s w h.1 (by rw [Lib.byteCells_length]; exact hl) h.2.size).mono ?_
  rintro e w' ⟨rfl, h1, h2, h3⟩
  refine ⟨rfl, ⟨?_, h.2.trans h2⟩, fun g cs T fz hg hT hh => ?_⟩
  · rw [Lib.byteCells_append]
    exact .inr h1
  · exact h3 g _ hh (fun e => hg (Option.some.inj e)) (fun c f e => by cases e; exact hT rfl)

/-- The contract of the writing of a term. -/
def WFormC (d : Nat) : Prop := ∀ (w0 : World) (b : Nat) (l : List UInt8) (k n : Int) (s : ByteArray) (a : Option Addr) (c : Nat) (ts : List (Tm d)) (w : World), RdL d w0 (.slice a ts.length c) ts → WfL d ts → OkL d ts → Shape k n s ts.length → TabOk w0 → Bd w0 b l w →
  l.length + 32 + 32 * cntL d ts ≤ 1000000000 → Calls Tryd.prog 50 #[.pointer (some ⟨b, 0, none⟩), formV k n s (.slice a ts.length c)] w fun e w' => e = .returned (.tuple #[]) ∧ Hid (Bd w0 b (l ++ (txtT d k n s ts).data.toList) w')

/-- The contract of the writing of a list of terms. -/
def WPartsC (d : Nat) : Prop := ∀ (w0 : World) (b : Nat) (l : List UInt8) (op en : ByteArray) (a : Option Addr) (c : Nat) (ts : List (Tm d)) (w : World), RdL d w0 (.slice a ts.length c) ts → WfL d ts → OkL d ts → TabOk w0 → Bd w0 b l w → op.size = 1 → en.size = 1 →
  l.length + 32 + 32 * cntL d ts ≤ 1000000000 → Calls Tryd.prog 81 #[.pointer (some ⟨b, 0, none⟩), .string op, .slice a ts.length c, .string en] w fun e w' => e = .returned (.tuple #[]) ∧ Hid (Bd w0 b (l ++ ((op ++ joinB (txtL d ts)) ++ en).data.toList) w')

theorem shape_kd {k n : Int} {s : ByteArray} {len : Nat} (h : Shape k n s len) : k = 1 ∨ k = 2 ∨ k = 3 ∨ k = 4 ∨ k = 5 := by
  rcases h with h | h | h | h | h
  · exact .inl h.1
  · exact .inr (.inl h.1)
  · exact .inr (.inr (.inl h.1))
  · exact .inr (.inr (.inr (.inl h.1)))
  · exact .inr (.inr (.inr (.inr h.1)))

theorem ba_append (a b : ByteArray) : (a ++ b).data.toList = a.data.toList ++ b.data.toList := by
  rw [ByteArray.data_append, Array.toList_append]

set_option maxHeartbeats 1000000 in
theorem wform_1 (w0 : World) (b : Nat) (l : List UInt8) (n : Int) (h0 : -1000000000000 ≤ n) (h1 : n ≤ 1000000000000) (w : World) (ht : TabOk w0) (hB : Bd w0 b l w) (hl : l.length ≤ 1000000000) :
    Calls Tryd.prog 50 #[.pointer (some ⟨b, 0, none⟩), .iface 100 (.int .i64 n)] w fun e w' => e = .returned (.tuple #[]) ∧ Hid (Bd w0 b (l ++ (intText n).data.toList) w') := by
  have HB : Hid (Bd w0 b l w) := hB
  have hI := itoa_any n w h0 h1 (ht.later hB.2)
  have hsz := intText_size n
  generalize intText n = T at hI hsz ⊢
  clear hB ht
  go_enter Tryd.func50, Tryd.ntmps50
  go_wp2_with fail
  refine hI.mono ?_
  clear hI
  rintro e w1 ⟨rfl, hb⟩
  have hW := write_any w0 b l T w1 (HB.out.later hb) (by omega)
  clear hb HB
  go_wp2_with fail
  refine hW.mono ?_
  clear hW
  rintro e w2 ⟨rfl, h2, _⟩
  go_wp2_with fail
  go_end0
  exact ⟨rfl, h2⟩

set_option maxHeartbeats 1000000 in
theorem wform_2 (w0 : World) (b : Nat) (l : List UInt8) (s : ByteArray) (hs : s.size ≤ 20) (w : World) (ht : TabOk w0) (hB : Bd w0 b l w) (hl : l.length ≤ 1000000000) :
    Calls Tryd.prog 50 #[.pointer (some ⟨b, 0, none⟩), .iface 101 (.string s)] w fun e w' => e = .returned (.tuple #[]) ∧ Hid (Bd w0 b (l ++ (s).data.toList) w') := by
  have hW := write_any w0 b l s w hB (by omega)
  clear hB ht
  go_enter Tryd.func50, Tryd.ntmps50
  go_wp2_with fail
  refine hW.mono ?_
  clear hW
  rintro e w2 ⟨rfl, h2, _⟩
  go_wp2_with fail
  go_end0
  exact ⟨rfl, h2⟩

set_option maxHeartbeats 1000000 in
theorem wform_3 (w0 : World) (b : Nat) (l : List UInt8) (n : Int) (h0 : -1000000000000 ≤ n) (h1 : n ≤ 1000000000000) (w : World) (ht : TabOk w0) (hB : Bd w0 b l w) (hl : l.length ≤ 1000000000) :
    Calls Tryd.prog 50 #[.pointer (some ⟨b, 0, none⟩), .iface 102 (.int .i64 n)] w fun e w' => e = .returned (.tuple #[]) ∧ Hid (Bd w0 b (l ++ ((⟨#[60]⟩ ++ intText n) ++ ⟨#[62]⟩).data.toList) w') := by
  have HB : Hid (Bd w0 b l w) := hB
  have hI := itoa_any n w h0 h1 (ht.later hB.2)
  have hsz := intText_size n
  generalize intText n = T at hI hsz ⊢
  have hs1 : ((⟨#[60]⟩ : ByteArray) ++ T).size = 1 + T.size := by rw [ByteArray.size_append]; rfl
  have hs2 : (((⟨#[60]⟩ : ByteArray) ++ T) ++ ⟨#[62]⟩).size = 1 + T.size + 1 := by rw [ByteArray.size_append, hs1]; rfl
  clear hB ht
  go_enter Tryd.func50, Tryd.ntmps50
  go_wp2_with fail
  refine hI.mono ?_
  clear hI
  rintro e w1 ⟨rfl, hb⟩
  have hW := write_any w0 b l ((⟨#[60]⟩ ++ T) ++ ⟨#[62]⟩) w1 (HB.out.later hb) (by omega)
  clear hb HB
  go_wp2_with fail
  refine hW.mono ?_
  clear hW
  rintro e w2 ⟨rfl, h2, _⟩
  go_wp2_with fail
  go_end0
  exact ⟨rfl, h2⟩

set_option maxHeartbeats 1000000 in
theorem wform_4 (d : Nat) (H : WPartsC d) (w0 : World) (b : Nat) (l : List UInt8) (a : Option Addr) (c : Nat) (ts : List (Tm d)) (w : World) (hr : RdL d w0 (.slice a ts.length c) ts) (hw : WfL d ts) (hok : OkL d ts) (ht : TabOk w0) (hB : Bd w0 b l w) (hl : l.length + 32 + 32 * cntL d ts ≤ 1000000000) :
    Calls Tryd.prog 50 #[.pointer (some ⟨b, 0, none⟩), .iface 103 (.slice a ts.length c)] w fun e w' => e = .returned (.tuple #[]) ∧ Hid (Bd w0 b (l ++ ((⟨#[123]⟩ ++ joinB (txtL d ts)) ++ ⟨#[125]⟩).data.toList) w') := by
  have hC := H w0 b l ⟨#[123]⟩ ⟨#[125]⟩ a c ts w hr hw hok ht hB rfl rfl hl
  obtain ⟨len, hlen⟩ : ∃ len, ts.length = len := ⟨_, rfl⟩
  obtain ⟨R, hR⟩ : ∃ R, l ++ (((⟨#[123]⟩ : ByteArray) ++ joinB (txtL d ts)) ++ ⟨#[125]⟩).data.toList = R := ⟨_, rfl⟩
  rw [hR, hlen] at hC
  rw [hR, hlen]
  clear hr hw hok H hR hlen hB ht
  go_enter Tryd.func50, Tryd.ntmps50
  go_wp2_with fail
  refine hC.mono ?_
  clear hC
  rintro e w2 ⟨rfl, h2⟩
  go_wp2_with fail
  go_end0
  exact ⟨rfl, h2⟩

set_option maxHeartbeats 1000000 in
theorem wform_5 (d : Nat) (H : WPartsC d) (w0 : World) (b : Nat) (l : List UInt8) (a : Option Addr) (c : Nat) (ts : List (Tm d)) (w : World) (hr : RdL d w0 (.slice a ts.length c) ts) (hw : WfL d ts) (hok : OkL d ts) (ht : TabOk w0) (hB : Bd w0 b l w) (hl : l.length + 32 + 32 * cntL d ts ≤ 1000000000) :
    Calls Tryd.prog 50 #[.pointer (some ⟨b, 0, none⟩), .iface 105 (.slice a ts.length c)] w fun e w' => e = .returned (.tuple #[]) ∧ Hid (Bd w0 b (l ++ ((⟨#[91]⟩ ++ joinB (txtL d ts)) ++ ⟨#[93]⟩).data.toList) w') := by
  have hC := H w0 b l ⟨#[91]⟩ ⟨#[93]⟩ a c ts w hr hw hok ht hB rfl rfl hl
  obtain ⟨len, hlen⟩ : ∃ len, ts.length = len := ⟨_, rfl⟩
  obtain ⟨R, hR⟩ : ∃ R, l ++ (((⟨#[91]⟩ : ByteArray) ++ joinB (txtL d ts)) ++ ⟨#[93]⟩).data.toList = R := ⟨_, rfl⟩
  rw [hR, hlen] at hC
  rw [hR, hlen]
  clear hr hw hok H hR hlen hB ht
  go_enter Tryd.func50, Tryd.ntmps50
  go_wp2_with fail
  refine hC.mono ?_
  clear hC
  rintro e w2 ⟨rfl, h2⟩
  go_wp2_with fail
  go_end0
  exact ⟨rfl, h2⟩

set_option maxHeartbeats 1000000 in
theorem wform_of (d : Nat) (H : WPartsC d) : WFormC d := by
  intro w0 b l k n s a c ts w hr hw hok hsh ht hB hl
  rcases shape_kd hsh with rfl | rfl | rfl | rfl | rfl
  · have := (shape1 _ _ _).1 hsh
    exact wform_1 w0 b l n this.1.1 this.1.2 w ht hB (by omega)
  · have := (shape2 _ _ _).1 hsh
    exact wform_2 w0 b l s this.1.2.2 w ht hB (by omega)
  · have := (shape3 _ _ _).1 hsh
    exact wform_3 w0 b l n (by omega) (by omega) w ht hB (by omega)
  · exact wform_4 d H w0 b l a c ts w hr hw hok ht hB hl
  · exact wform_5 d H w0 b l a c ts w hr hw hok ht hB hl

end Go.Proofs.YtickaplokjdijaaDoor
