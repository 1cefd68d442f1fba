/- The text of a token: the program's and the model's. -/
import Derived.Test.YtfjneifgjdjbiaaDoorTk4M
import Derived.Test.YtfjneifgjdjbiaaDoorTTextM
import Derived.Test.YtfjneifgjdjbiaaDoorShelf
import Derived.Lib.LaidTab
import Derived.Test.YtfjneifgjdjbiaaDoorIOkM
import Derived.Lib.FrozenHead
namespace Go.Proofs.YtfjneifgjdjbiaaDoor
open Go.RowKit
set_option linter.unusedVariables false

/-- The table of the powers of ten lies as it was laid. -/
def TabOk (w : World) : Prop := Lib.TabIs Tryd.prog w "internal/strconv.uint64pow10" .u64 Lib.pow10Tab

theorem Tryd.pow10Is : (Tryd.prog.globalNamed "internal/strconv.uint64pow10").isSome = true := by kernel_rfl

theorem TabOk.later {w w' : World} (h : TabOk w) (hb : Below w.heap.size w w') : TabOk w' := by
  obtain ⟨g, hg⟩ := Option.isSome_iff_exists.1 Tryd.pow10Is
  unfold TabOk Lib.TabIs World.var? at h ⊢
  rw [hg] at h ⊢
  simp only [Option.bind_some] at h ⊢
  have hlt : g < w.heap.size := by
    rcases Nat.lt_or_ge g w.heap.size with h' | h'
    · exact h'
    · rw [Array.getElem?_eq_none h'] at h; cases h
  rw [hb.block g hlt]
  exact h

theorem dg_dec : ∀ (f : Nat) (u : Nat), u < 10 ^ f → 0 < f → dg f (u : Int) = ⟨(Lib.decDigits u).toArray⟩ := by
  intro f
  induction f with
  | zero => intro u _ h; omega
  | succ f ih =>
    intro u hu _
    rw [dg, Lib.decDigits]
    by_cases h : u < 10
    · rw [if_pos (by omega), dif_pos h]
      unfold strOfNums
      simp only [List.map_cons, List.map_nil]
      rw [show ((48 : Int) + (u : Int)).toNat = 48 + u from by omega]
    · rw [if_neg (by omega), dif_neg h]
      have h1 : (u : Int) / 10 = ((u / 10 : Nat) : Int) := by omega
      have h2 : (48 : Int) + (u : Int) % 10 = ((48 + u % 10 : Nat) : Int) := by omega
      have h3 : 0 < f := by
        cases f with
        | zero => simp at hu; omega
        | succ f => omega
      rw [h1, h2, ih (u / 10) (by rw [Nat.pow_succ] at hu; omega) h3]
      apply ByteArray.ext
      rw [ByteArray.data_append]
      show (Lib.decDigits (u / 10)).toArray ++ ((List.map (fun n : Int => UInt8.ofNat n.toNat) [((48 + u % 10 : Nat) : Int)]).toArray) = _
      rw [List.map_cons, List.map_nil, Int.toNat_natCast, List.append_toArray]

theorem itoa_text (n : Int) (h0 : -1000000000000 ≤ n) (h1 : n ≤ 1000000000000) : (⟨(Lib.itoa n).toArray⟩ : ByteArray) = intText n := by
  unfold Lib.itoa intText
  have hp : (10 : Nat) ^ 18 = 1000000000000000000 := by decide
  split
  · have h2 : -n = ((n.natAbs : Nat) : Int) := by omega
    rw [h2, dg_dec 18 n.natAbs (by rw [hp]; omega) (by omega)]
    apply ByteArray.ext
    rw [ByteArray.data_append]
    simp
  · have h2 : dg 18 n = dg 18 ((n.toNat : Nat) : Int) := by congr 1; omega
    rw [h2, dg_dec 18 n.toNat (by rw [hp]; omega) (by omega)]

theorem grow_below (w : World) (k : Nat) (os : Array Obj) : Below w.heap.size w (Sort.grow (w.drewN k) os) :=
  ⟨rfl, rfl, rfl, by show w.heap.size ≤ (w.heap ++ os).size; rw [Array.size_append]; omega, fun g hg => by show (w.heap ++ os)[g]? = _; rw [Array.getElem?_append_left hg]⟩

theorem itoa_any (n : Int) (w : World) (h0 : -1000000000000 ≤ n) (h1 : n ≤ 1000000000000) (ht : TabOk w) :
    Calls Tryd.prog 18 #[.int .i64 n] w fun e w' => e = .returned (.string (intText n)) ∧ Below w.heap.size w w' := by
  refine (Tryd.strconv_Itoa n (by omega) (by omega) w ht).mono ?_
  rintro e w' ⟨rfl, k, os, rfl⟩
  exact ⟨by rw [itoa_text n h0 h1], grow_below w k os⟩

/-- The text of a token. -/
def ttext (k n : Int) (s : ByteArray) : ByteArray := if k = 1 then intText n else s

/-- What TokenText hands back. -/
def TxtP (k n : Int) (s r : ByteArray) : Prop := (TokP k n s ∧ r = ttext k n s) ∨ (¬ TokP k n s ∧ r = ⟨#[]⟩)

theorem TxtP.same {k n : Int} {s r r' : ByteArray} (h : TxtP k n s r) (h' : TxtP k n s r') : r = r' := by
  rcases h with ⟨h1, rfl⟩ | ⟨h1, rfl⟩
  · rcases h' with ⟨_, rfl⟩ | ⟨h2, _⟩
    · rfl
    · exact absurd h1 h2
  · rcases h' with ⟨h2, _⟩ | ⟨_, rfl⟩
    · exact absurd h2 h1
    · rfl

end Go.Proofs.YtfjneifgjdjbiaaDoor

/- The text of a term: the program's writing of it. -/
namespace Go.Proofs.YtfjneifgjdjbiaaDoor
open Go.RowKit
set_option linter.unusedVariables false

/-- A builder of the call's own, and what it holds. -/
def Bd (w0 : World) (b : Nat) (l : List UInt8) (w : World) : Prop := Lib.IsBuilderF 50 5 w0.heap.size b (Lib.byteCells l) w ∧ Below w0.heap.size w0 w

theorem rowF_later {w w' : World} {B e n : Nat} {v : Value} {xs : List Value} (h : w.ownsRowF B e 1 v n xs) (hb : Below w.heap.size w w') : w'.ownsRowF B e 1 v n xs := by
  obtain ⟨h1, h2⟩ := h
  refine ⟨h1, ?_⟩
  rcases h2 with h2 | ⟨g, c, cur, fz, e1, e2, e3, e4⟩
  · exact .inl h2
  · exact .inr ⟨g, c, cur, fz, e1, e2, (hb.block g ((Array.getElem?_eq_some_iff.1 e3).1)).trans e3, e4⟩

theorem Bd.later {w0 : World} {b : Nat} {l : List UInt8} {w w' : World} (h : Bd w0 b l w) (hb : Below w.heap.size w w') : Bd w0 b l w' := by
  obtain ⟨h1, h2⟩ := h
  refine ⟨?_, h2.trans (hb.mono h2.size)⟩
  rcases h1 with ⟨hB, v, q1, q2, q3⟩ | ⟨hB, v, q1, q2, q3⟩
  · exact .inl ⟨hB, v, (hb.block b ((Array.getElem?_eq_some_iff.1 q1).1)).trans q1, rowF_later q2 hb, q3⟩
  · exact .inr ⟨hB, v, (hb.block b ((Array.getElem?_eq_some_iff.1 q1).1)).trans q1, rowF_later q2 hb, q3⟩

/-- Boxes other than the builder, and that are no bytes, are kept. -/
def BoxKept (b : Nat) (w w' : World) : Prop := ∀ (g : Nat) (cs : Array Value) (T : TypeId) (fz : Nat × Nat), g ≠ b → T ≠ 5 → w.heap[g]? = some (.cells cs T fz) → w'.heap[g]? = some (.cells cs T fz)

theorem write_any (w0 : World) (b : Nat) (l : List UInt8) (s : ByteArray) (w : World) (h : Bd w0 b l w) (hl : l.length + s.size ≤ 140737488355328) :
    Calls Tryd.prog 17 #[.pointer (some ⟨b, 0, none⟩), .string s] w fun e w' => e = .returned (.tuple #[.int .i64 s.size, .nilIface]) ∧ Hid (Bd w0 b (l ++ s.data.toList) w') ∧ Hid (BoxKept b w w') := by
  refine (Tryd.Builder_WriteString_k w0.heap.size b (Lib.byteCells l) s w h.1 (by rw [Lib.byteCells_length]; exact hl) h.2.size).mono ?_
  rintro e w' ⟨rfl, h1, h2, h3⟩
  refine ⟨rfl, ⟨?_, h.2.trans h2⟩, fun g cs T fz hg hT hh => ?_⟩
  · rw [Lib.byteCells_append]
    exact .inr h1
  · exact h3 g _ hh (fun e => hg (Option.some.inj e)) (fun c f e => by cases e; exact hT rfl)

theorem shape_kd {k n : Int} {s : ByteArray} {len : Nat} (h : Shape k n s len) : k = 1 ∨ k = 2 ∨ k = 3 ∨ k = 4 ∨ k = 5 := by
  rcases h with h | h | h | h | h
  · exact .inl h.1
  · exact .inr (.inl h.1)
  · exact .inr (.inr (.inl h.1))
  · exact .inr (.inr (.inr (.inl h.1)))
  · exact .inr (.inr (.inr (.inr h.1)))

theorem ba_append (a b : ByteArray) : (a ++ b).data.toList = a.data.toList ++ b.data.toList := by
  rw [ByteArray.data_append, Array.toList_append]

end Go.Proofs.YtfjneifgjdjbiaaDoor
