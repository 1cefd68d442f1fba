/- The model's reading of a term, on: all kinds and storeys. -/
import Derived.Test.YthjmbbpakidkdaaSGet
namespace Go.Proofs.Ythjmbbpakidkdaa
open Go.RowKit
set_option linter.unusedVariables false

/-- The model's GetNum, in every later world. -/
theorem num_later {b off n cap : Nat} {zs : List Int} {w : World} (hB : Bts n cap zs) (hrow : ∀ i, i < n → w.cell? ⟨b, off + i, none⟩ = some (.int .u8 (zs.getD i 0))) :
    ∀ X p x q ok, Below w.heap.size w X → getNum zs p = (x, q, ok) → Calls Try.prog 130 #[.slice (some ⟨b, off, none⟩) n cap, .int .i64 p] X fun e w' => e = .returned (.tuple #[.int .i64 x, .int .i64 q, .bool ok]) ∧ X = w' := fun X p x q ok hX hg => by
  refine (specGetNum_any b off n cap p zs X hB.len (by have := hB.le; omega) (fun i hi => cell_later hX (hrow i hi)) hB.rng).mono ?_
  rintro e w' ⟨rfl, rfl⟩
  rw [hg]
  exact ⟨rfl, rfl⟩
theorem text_later {b off n cap : Nat} {zs : List Int} {w : World} (hB : Bts n cap zs) (hrow : ∀ i, i < n → w.cell? ⟨b, off + i, none⟩ = some (.int .u8 (zs.getD i 0))) :
    ∀ X p x q ok, Below w.heap.size w X → getText zs p = (x, q, ok) → Calls Try.prog 131 #[.slice (some ⟨b, off, none⟩) n cap, .int .i64 p] X fun e w' => e = .returned (.tuple #[.string (strOfNums x), .int .i64 q, .bool ok]) ∧ X = w' := fun X p x q ok hX hg => by
  refine (specGetText_any b off n cap p zs X hB.len (by have := hB.le; omega) hB.cap1 hB.cap2 (fun i hi => cell_later hX (hrow i hi)) hB.rng).mono ?_
  rintro e w' ⟨rfl, rfl⟩
  rw [hg]
  exact ⟨rfl, rfl⟩

theorem spost_no {m n : Nat} {zs : List Int} {at_ q : Int} {w Z : World} {v : Value} (hb : Below w.heap.size w Z) (h : getT zs m at_ = none) : SPost m w Z n zs at_ v q false := ⟨hb, (fun e => Bool.noConfusion e), fun _ => h⟩

theorem spost_leaf {m n : Nat} {zs : List Int} {at_ at' k x : Int} {s : ByteArray} {w Z : World} (hb : Below w.heap.size w Z) (hk : I64 k) (hx : I64 x) (hs : s.size ≤ maxLen) (hlt : at_ < at') (hle : at' ≤ n)
    (h : getT zs (m + 1) at_ = some (((k, x, s, []) : Int × Int × ByteArray × List (Tm m)), at')) : SPost (m + 1) w Z n zs at_ (.agg #[.int .i64 k, .int .i64 x, .string s, .slice none 0 0]) at' true := by
  obtain ⟨a, l, c, fp, e, h1, h2, h3⟩ := (made_nil m w.heap.size Z).own
  exact ⟨hb, fun _ => ⟨((k, x, s, []) : Int × Int × ByteArray × List (Tm m)), fp, ⟨none, 0, 0, rfl, h1⟩, h2, ⟨hk, hx, hs, h3⟩, .inl h, hlt, hle⟩, (fun e => Bool.noConfusion e)⟩

theorem two_below (w : World) (o1 o2 : Obj) : Below w.heap.size w ((w.alloc o1).alloc o2) := ((Below.refl _ _).alloc (Nat.le_refl _) _).alloc (by simp) _
theorem set_below {w Z : World} (h : Below w.heap.size w Z) (g o : Nat) (v : Value) (hg : w.heap.size ≤ g) : Below w.heap.size w (Z.setCell ⟨g, o, none⟩ v) := h.setCell hg _

set_option maxHeartbeats 1000000 in
/-- What is refused at once. -/
theorem specGet_no (m : Nat) (hm : m ≤ 8) (b off n cap : Nat) (zs : List Int) (at_ : Int) (w : World) (hB : Bts n cap zs) (hrow : ∀ i, i < n → w.cell? ⟨b, off + i, none⟩ = some (.int .u8 (zs.getD i 0))) (h : m = 0 ∨ ¬ (getNum zs at_).2.2 = true) :
    Calls Try.prog 79 #[.slice (some ⟨b, off, none⟩) n cap, .int .i64 at_, .int .i64 m] w fun e w' => ∃ k x s a l c q ok, e = .returned (.tuple #[.agg #[.int .i64 k, .int .i64 x, .string s, .slice a l c], .int .i64 q, .bool ok]) ∧ Hid (SPost m w w' n zs at_ (.agg #[.int .i64 k, .int .i64 x, .string s, .slice a l c]) q ok) := by
  have hN : getT zs m at_ = none := by
    cases m with
    | zero => rfl
    | succ m => exact getT_no (by rcases h with h | h; omega; exact h)
  obtain ⟨k, q, ok, hg⟩ : ∃ k q ok, getNum zs at_ = (k, q, ok) := ⟨_, _, _, rfl⟩
  have HN := num_later hB hrow
  have HP : Hid (∀ Z v q, Below w.heap.size w Z → SPost m w Z n zs at_ v q false) := fun Z v q hb => spost_no hb hN
  have HH : Hid (∀ X, Below w.heap.size w X → Calls Try.prog 130 #[.slice (some ⟨b, off, none⟩) n cap, .int .i64 at_] X fun e w' => e = .returned (.tuple #[.int .i64 k, .int .i64 q, .bool ok]) ∧ X = w') := fun X hX => HN X _ _ _ _ hX hg
  have hd : ok = false ∨ (ok = true ∧ (m : Int) < 1) := by
    rw [hg] at h
    cases ok
    · exact .inl rfl
    · exact .inr ⟨rfl, by rcases h with h | h; omega; exact absurd rfl h⟩
  obtain ⟨dp, hdp⟩ : ∃ dp : Int, (m : Int) = dp := ⟨_, rfl⟩
  rw [hdp] at hd ⊢
  have hdb : 0 ≤ dp ∧ dp ≤ 8 := by omega
  clear hN hg HN h hrow hB hdp
  have hA : ∀ o, Below w.heap.size w (w.alloc o) := fun o => (Below.refl _ _).alloc (Nat.le_refl _) _
  rcases hd with rfl | ⟨rfl, hd⟩
  · go_enter Try.func79, Try.ntmps79
    go_wp2_with fail
    refine (HH.out _ (hA _)).mono ?_
    rintro e w' ⟨rfl, rfl⟩
    go_wp2_with fail
    refine bodyPost_ret (v := .tuple #[.agg #[.int .i64 k, .int .i64 0, .string ByteArray.empty, .slice none 0 0], .int .i64 0, .bool false]) (by first | (simp [results, Try.results79, go_sem]; done) | (simp [results, Try.results79, go_sem]; rfl)) rfl ⟨k, 0, ByteArray.empty, none, 0, 0, 0, false, rfl, HP.out _ _ _ ?_⟩
    first | exact two_below _ _ _ | (refine set_below (set_below (set_below (set_below (two_below _ _ _) _ _ _ ?_) _ _ _ ?_) _ _ _ ?_) _ _ _ ?_ <;> (try simp)) | (trace_state; done)
  · go_enter Try.func79, Try.ntmps79
    go_wp2_with fail
    refine (HH.out _ (hA _)).mono ?_
    rintro e w' ⟨rfl, rfl⟩
    go_wp2_with fail
    refine bodyPost_ret (v := .tuple #[.agg #[.int .i64 k, .int .i64 0, .string ByteArray.empty, .slice none 0 0], .int .i64 0, .bool false]) (by first | (simp [results, Try.results79, go_sem]; done) | (simp [results, Try.results79, go_sem]; rfl)) rfl ⟨k, 0, ByteArray.empty, none, 0, 0, 0, false, rfl, HP.out _ _ _ ?_⟩
    first | exact two_below _ _ _ | (refine set_below (set_below (set_below (set_below (two_below _ _ _) _ _ _ ?_) _ _ _ ?_) _ _ _ ?_) _ _ _ ?_ <;> (try simp)) | (trace_state; done)

end Go.Proofs.Ythjmbbpakidkdaa
