/- Sets of texts, kept as maps from texts to 1. -/
import Derived.Test.YtpokheklplcamaaNm0M
import Derived.Maps.OwnSet
namespace Go.Proofs.Ytpokheklplcamaa
open Go.RowKit Go.ChangeMaps Go.MapKept
set_option linter.unusedVariables false

/-- Block b is a map that holds 1 for just the texts of T. -/
def TMap (w : World) (b n : Nat) (T : ByteArray → Prop) : Prop :=
  ∃ D : DataW Unit, w.ownsMap Try.prog 9 (plainElem Try.prog 3) b n D ∧ ∀ s : ByteArray, (T s → D.atKey (.string s.data.toList) (.lit (.int .i64 0)) = .lit (.int .i64 1)) ∧ (¬ T s → D.atKey (.string s.data.toList) (.lit (.int .i64 0)) = .lit (.int .i64 0))

theorem skeyed : Maps.Keyed Try.prog 9 := Maps.string_keyed Try.underlying9
theorem str_key (s : ByteArray) (hs : s.size ≤ maxLen) : keyOf Try.prog 9 (.string s) = some (.string s.data.toList) := by
  unfold keyOf
  rw [Try.underlying9]
  simp [mapKey, Try.underlying9, hs]
theorem data_ne {s t : ByteArray} (h : ¬ s = t) : Lit.string s.data.toList ≠ Lit.string t.data.toList := fun e => by
  simp only [Lit.string.injEq] at e
  exact h (ByteArray.ext (Array.toList_inj.mp e))

theorem TMap.made (w : World) : TMap (w.alloc (.map #[] 0)) w.heap.size 0 (fun _ => False) :=
  ⟨.map [], World.ownsMap_made w _ _ _, fun s => ⟨fun h => h.elim, fun _ => rfl⟩⟩
theorem TMap.lt {w : World} {b n : Nat} {T : ByteArray → Prop} (h : TMap w b n T) : b < w.heap.size := by
  obtain ⟨D, h1, _⟩ := h
  exact h1.lt
theorem TMap.kept {w w' : World} {b n : Nat} {T : ByteArray → Prop} (h : TMap w b n T) (hb : w'.heap[b]? = w.heap[b]?) : TMap w' b n T := by
  obtain ⟨D, ⟨es, clock, h1, h2⟩, h3⟩ := h
  exact ⟨D, ⟨es, clock, hb.trans h1, h2⟩, h3⟩
theorem TMap.alike {w : World} {b n n' : Nat} {T T' : ByteArray → Prop} (h : TMap w b n T) (hn : n ≤ n') (ht : ∀ s, T s ↔ T' s) : TMap w b n' T' := by
  obtain ⟨D, h1, h3⟩ := h
  exact ⟨D, h1.mono hn, fun s => ⟨fun q => (h3 s).1 ((ht s).2 q), fun q => (h3 s).2 fun q' => q ((ht s).1 q')⟩⟩

theorem zeroInt (w : World) : (zeroValue 3).run Try.prog w = .ok (.int .i64 0) w := by go_simp

theorem TMap.look {w : World} {b n : Nat} {T : ByteArray → Prop} (h : TMap w b n T) (s : ByteArray) (hs : s.size ≤ maxLen) : ∃ c : Int, (Instr.lookup 62 (.map (some b)) (.string s) false).run Try.prog w = .ok (.int .i64 c) w ∧ (T s → c = 1) ∧ (¬ T s → c = 0) := by
  obtain ⟨D, h1, h2⟩ := h
  obtain ⟨c, q1, q2, q3⟩ := h1.lookup_int skeyed Try.underlying62 Try.underlying3 (zeroInt w) (str_key s hs)
  refine ⟨c, q1, fun t => ?_, fun t => ?_⟩
  · have := (h2 s).1 t
    rw [q2] at this
    simpa using this
  · have := (h2 s).2 t
    rw [q2] at this
    simpa using this
theorem TMap.look_yes {w : World} {b n : Nat} {T : ByteArray → Prop} (h : TMap w b n T) {s : ByteArray} (hs : s.size ≤ maxLen) (ht : T s) : (Instr.lookup 62 (.map (some b)) (.string s) false).run Try.prog w = .ok (.int .i64 1) w := by
  obtain ⟨c, h1, h2, h3⟩ := h.look s hs
  rw [h2 ht] at h1
  exact h1
theorem TMap.look_no {w : World} {b n : Nat} {T : ByteArray → Prop} (h : TMap w b n T) {s : ByteArray} (hs : s.size ≤ maxLen) (ht : ¬ T s) : (Instr.lookup 62 (.map (some b)) (.string s) false).run Try.prog w = .ok (.int .i64 0) w := by
  obtain ⟨c, h1, h2, h3⟩ := h.look s hs
  rw [h3 ht] at h1
  exact h1

theorem TMap.store {w : World} {b n : Nat} {T : ByteArray → Prop} (h : TMap w b n T) (hn : n < maxLen) (s : ByteArray) (hs : s.size ≤ maxLen) : ∃ w', (Instr.mapUpdate 62 (.map (some b)) (.string s) (.int .i64 1)).run Try.prog w = .ok () w' ∧ TMap w' b (n + 1) (fun x => x = s ∨ T x) ∧ w.mapTurned w' b := by
  obtain ⟨D, h1, h2⟩ := h
  obtain ⟨w', q1, q2, q3⟩ := h1.store skeyed Try.underlying62 hn (str_key s hs) (plainElem_int (H := Unit) Try.underlying3 (q := .i64) (a := 1) (by decide))
  refine ⟨w', q1, ⟨_, q2, fun x => ?_⟩, q3⟩
  by_cases hx : x = s
  · subst hx
    refine ⟨fun _ => ?_, fun q => absurd (.inl rfl) q⟩
    exact Maps.atKey_put_same h1.isMap (by simp [WideAt.IsKeyLit]) _ _
  · rw [Maps.atKey_put_other (data_ne hx)]
    exact ⟨fun q => (h2 x).1 (q.resolve_left hx), fun q => (h2 x).2 fun q' => q (.inr q')⟩
theorem TMap.drop {w : World} {b n : Nat} {T : ByteArray → Prop} (h : TMap w b n T) (s : ByteArray) (hs : s.size ≤ maxLen) (ty : TypeId) : ∃ w', (Builtin.delete_ #[62, 9] ty #[.map (some b), .string s]).run Try.prog w = .ok (.tuple #[]) w' ∧ TMap w' b n (fun x => ¬ x = s ∧ T x) ∧ w.mapTurned w' b := by
  obtain ⟨D, h1, h2⟩ := h
  obtain ⟨w', q1, q2, q3⟩ := h1.drop skeyed Try.underlying62 (str_key s hs) ty
  refine ⟨w', q1, ⟨_, q2, fun x => ?_⟩, q3⟩
  by_cases hx : x = s
  · subst hx
    exact ⟨fun q => absurd rfl q.1, fun _ => Maps.atKey_del_same _⟩
  · rw [Maps.atKey_del_other (data_ne hx)]
    exact ⟨fun q => (h2 x).1 q.2, fun q => (h2 x).2 fun q' => q ⟨hx, q'⟩⟩

end Go.Proofs.Ytpokheklplcamaa
