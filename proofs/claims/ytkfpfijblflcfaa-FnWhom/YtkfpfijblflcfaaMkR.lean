/- Rows of structs under way, of whatever kind: as they grow by appends; expressions lifted by a storey. -/
import Derived.Test.YtkfpfijblflcfaaXm
import Derived.Test.YtkfpfijblflcfaaGetT
namespace Go.Proofs.Ytkfpfijblflcfaa
open Go.RowKit
set_option linter.unusedVariables false

theorem row_one {w : World} {B k n : Nat} {e : TypeId} {v : Value} {cs cs' : List Value} (h : w.ownsRow B e k v n cs) (h' : w.ownsRow B e k v n cs') : cs = cs' := by
  rcases h.2 with ⟨rfl, hn⟩ | ⟨g, c, cur, e1, _, e3, _, _, _, e7⟩
  · have h1 := h.1
    have h2 := h'.1
    rw [hn, Nat.zero_mul] at h1 h2
    rw [List.eq_nil_of_length_eq_zero h1, List.eq_nil_of_length_eq_zero h2]
  · rcases h'.2 with ⟨e, _⟩ | ⟨g', c', cur', e1', _, e3', _, _, _, e7'⟩
    · rw [e] at e1; cases e1
    · rw [e1] at e1'
      cases e1'
      rw [e3] at e3'
      cases e3'
      rw [← e7, ← e7']

section
variable {α : Type} {k : Nat} {T : TypeId} {O : World → List Value → α → List Nat → Prop}

/-- A row under way: it and all that hangs on it are the call's own. -/
def MadeR (k : Nat) (T : TypeId) (O : World → List Value → α → List Nat → Prop) (B : Nat) (w : World) (v : Value) (xs : List α) (fp : List Nat) : Prop :=
  ∃ (cs : List Value) (fps : List (List Nat)), w.ownsRow B T k v xs.length cs ∧ fps.length = xs.length ∧ fp = v.ownBlock.toList ++ fps.flatten ∧ Fresh B w fp ∧
    ∀ (i : Nat) (x : α), xs[i]? = some x → ∃ vs f, fps[i]? = some f ∧ vs.length = k ∧ (∀ (j : Nat) (u : Value), vs[j]? = some u → cs[i * k + j]? = some u) ∧ O w vs x f

theorem MadeR.nil (B : Nat) (w : World) : MadeR k T O B w (.slice none 0 0) ([] : List α) [] :=
  ⟨[], [], ⟨by simp, .inl ⟨rfl, rfl⟩⟩, rfl, rfl, ⟨List.nodup_nil, fun g h => by cases h⟩, fun i x h => by simp at h⟩

theorem MadeR.empty {B g : Nat} {w : World} (h : w.heap[g]? = some (.cells #[] T (0, 0))) (hB : B ≤ g) : MadeR k T O B w (.slice (some ⟨g, 0, none⟩) 0 0) ([] : List α) [g] :=
  ⟨[], [], ⟨by simp, .inr ⟨g, 0, #[], rfl, hB, h, Nat.le_refl _, Nat.zero_le _, by simp, by simp⟩⟩, rfl, rfl, ⟨by simp, fun x hx => by obtain rfl := List.mem_singleton.1 hx; exact ⟨hB, lt_row h⟩⟩, fun i x h => by simp at h⟩

theorem MadeR.row {B : Nat} {w : World} {v : Value} {xs : List α} {fp : List Nat} (h : MadeR k T O B w v xs fp) : ∃ cs, w.ownsRow B T k v xs.length cs := by
  obtain ⟨cs, fps, h1, _⟩ := h
  exact ⟨cs, h1⟩

theorem MadeR.frame (hO : LastsO O) {B : Nat} {w w' : World} {v : Value} {xs : List α} {fp : List Nat} (h : MadeR k T O B w v xs fp) (hb : ∀ g ∈ fp, w'.heap[g]? = w.heap[g]?) (hz : w.heap.size ≤ w'.heap.size) : MadeR k T O B w' v xs fp := by
  obtain ⟨cs, fps, h1, h2, h3, h4, h5⟩ := h
  subst h3
  refine ⟨cs, fps, rowKept h1 fun g hg => hb g (List.mem_append_left _ (by rw [hg]; exact List.mem_singleton.2 rfl)), h2, rfl, ⟨h4.1, fun g hg => ⟨(h4.2 g hg).1, Nat.lt_of_lt_of_le (h4.2 g hg).2 hz⟩⟩, fun i x hx => ?_⟩
  obtain ⟨vs, f, q1, q2, q3, q4⟩ := h5 i x hx
  exact ⟨vs, f, q1, q2, q3, hO _ _ _ _ _ q4 fun g hg => hb g (List.mem_append_right _ (List.mem_flatten.2 ⟨f, List.mem_of_getElem? q1, hg⟩))⟩

theorem MadeR.own {B : Nat} {w : World} {v : Value} {xs : List α} {fp : List Nat} (h : MadeR k T O B w v xs fp) : ∃ a l c fp', v = .slice a l c ∧ OwnRow k T O w v xs fp' ∧ Fresh B w fp' := by
  obtain ⟨cs, fps, h1, h2, h3, h4, h5⟩ := h
  rcases h1.2 with ⟨rfl, e⟩ | ⟨g, c, cur, e1, e2, e3, e4, e5, e6, e7⟩
  · exact ⟨none, 0, 0, [], rfl, .inl ⟨List.length_eq_zero_iff.1 e, rfl, none, 0, rfl⟩, ⟨List.nodup_nil, fun g h => by cases h⟩⟩
  · refine ⟨_, _, _, fp, e1, .inr ⟨g, c, cur, fps, e1, e3, ⟨h2, e4⟩, by rw [h3, e1]; rfl, fun i x hx => ?_⟩, h4⟩
    obtain ⟨vs, f, q1, q2, q3, q4⟩ := h5 i x hx
    exact ⟨vs, f, q1, q2, fun j u hu => by rw [← Array.getElem?_toList]; exact take_at e7 (q3 j u hu), q4⟩

/-- The same, with blocks of the row's own alone. -/
theorem MadeR.own_in {B : Nat} {w : World} {v : Value} {xs : List α} {fp : List Nat} (h : MadeR k T O B w v xs fp) : ∃ a l c fp', v = .slice a l c ∧ OwnRow k T O w v xs fp' ∧ Fresh B w fp' ∧ ∀ g ∈ fp', g ∈ fp := by
  obtain ⟨cs, fps, h1, h2, h3, h4, h5⟩ := h
  rcases h1.2 with ⟨rfl, e⟩ | ⟨g, c, cur, e1, e2, e3, e4, e5, e6, e7⟩
  · exact ⟨none, 0, 0, [], rfl, .inl ⟨List.length_eq_zero_iff.1 e, rfl, none, 0, rfl⟩, ⟨List.nodup_nil, fun g h => by cases h⟩, fun g h => by cases h⟩
  · refine ⟨_, _, _, fp, e1, .inr ⟨g, c, cur, fps, e1, e3, ⟨h2, e4⟩, by rw [h3, e1]; rfl, fun i x hx => ?_⟩, h4, fun g h => h⟩
    obtain ⟨vs, f, q1, q2, q3, q4⟩ := h5 i x hx
    exact ⟨vs, f, q1, q2, fun j u hu => by rw [← Array.getElem?_toList]; exact take_at e7 (q3 j u hu), q4⟩

/-- One more: the row is the old one or a new block; what hangs on it stays. -/
theorem MadeR.step (hO : LastsO O) {B : Nat} {w w' : World} {v v' : Value} {xs : List α} {x : α} {fp f : List Nat} {cs vs : List Value} (h : MadeR k T O B w v xs fp) (hrow : w.ownsRow B T k v xs.length cs) (hx : O w vs x f) (hvs : vs.length = k) (hf : Fresh B w f) (hd : ∀ g ∈ f, g ∉ fp)
    (hown : w'.ownsRow B T k v' (xs.length + 1) (cs ++ vs)) (hgr : w.grownBy w' v.ownBlock) (hat : v'.ownBlock = v.ownBlock ∨ v'.ownBlock = some w.heap.size) :
    ∃ fp', MadeR k T O B w' v' (xs ++ [x]) fp' ∧ ∀ g ∈ fp', g ∈ fp ∨ g ∈ f ∨ w.heap.size ≤ g := by
  obtain ⟨cs', fps, r1, hfl, r3, hF, hel⟩ := h
  obtain rfl := row_one hrow r1
  subst r3
  rcases hown.2 with ⟨_, e⟩ | ⟨g', c', cur', e1, e2, e3, e4, e5, e6, e7⟩
  · omega
  have hz' : g' < w'.heap.size := lt_row e3
  have hcl : cs.length = xs.length * k := hrow.1
  have hlen' : (xs ++ [x]).length = xs.length + 1 := by simp
  have hob : v'.ownBlock = some g' := by rw [e1]; rfl
  have hnd := List.nodup_append.1 hF.1
  have hkeep : ∀ y, (y ∈ fps.flatten ∨ y ∈ f) → y < w.heap.size ∧ w'.heap[y]? = w.heap[y]? ∧ y ≠ g' ∧ B ≤ y := fun y hy => by
    have hlt : B ≤ y ∧ y < w.heap.size := by
      rcases hy with hy | hy
      · exact hF.2 y (List.mem_append_right _ hy)
      · exact hf.2 y hy
    have hno : some y ≠ v.ownBlock := fun e => by
      have hm : y ∈ v.ownBlock.toList := by rw [← e]; exact List.mem_singleton.2 rfl
      rcases hy with hy | hy
      · exact hnd.2.2 y hm y hy rfl
      · exact hd y hy (List.mem_append_left _ hm)
    refine ⟨hlt.2, hgr.block y hlt.2 hno, fun e => ?_, hlt.1⟩
    rcases hat with hat | hat
    · exact hno (by rw [← hat, hob, e])
    · rw [hob] at hat
      have : g' = w.heap.size := by simpa using hat
      omega
  refine ⟨g' :: (fps ++ [f]).flatten, ⟨cs ++ vs, fps ++ [f], by rw [hlen']; exact hown, by simp [hfl], by rw [hob]; rfl, ⟨?_, fun g hg => ?_⟩, fun i u hu => ?_⟩, fun g hg => ?_⟩
  · rw [List.flatten_append, List.nodup_cons, List.nodup_append]
    refine ⟨fun hm => ?_, hnd.2.1, by simpa using hf.1, fun a ha b hb => ?_⟩
    · rcases List.mem_append.1 hm with hm | hm
      · exact (hkeep g' (.inl hm)).2.2.1 rfl
      · exact (hkeep g' (.inr (by simpa using hm))).2.2.1 rfl
    · intro e
      exact hd b (by simpa using hb) (List.mem_append_right _ (by rw [← e]; exact ha))
  · rcases List.mem_cons.1 hg with rfl | hg
    · exact ⟨e2, hz'⟩
    · rw [List.flatten_append] at hg
      have := hkeep g (by
        rcases List.mem_append.1 hg with hg | hg
        · exact .inl hg
        · exact .inr (by simpa using hg))
      exact ⟨this.2.2.2, Nat.lt_of_lt_of_le this.1 hgr.size⟩
  · by_cases hi : i < xs.length
    · rw [List.getElem?_append_left hi] at hu
      obtain ⟨vs', f', q1, q2, q3, q4⟩ := hel i u hu
      exact ⟨vs', f', by rw [List.getElem?_append_left (by omega)]; exact q1, q2, fun j y hy => by rw [List.getElem?_append_left (List.getElem?_eq_some_iff.1 (q3 j y hy)).1]; exact q3 j y hy, hO _ _ _ _ _ q4 fun g hg => (hkeep g (.inl (List.mem_flatten.2 ⟨f', List.mem_of_getElem? q1, hg⟩))).2.1⟩
    · have hi2 : i = xs.length := by
        have := (List.getElem?_eq_some_iff.1 hu).1
        omega
      subst hi2
      have hut : u = x := by simpa using hu.symm
      subst hut
      refine ⟨vs, f, by rw [← hfl]; simp, hvs, fun j y hy => ?_, hO _ _ _ _ _ hx fun g hg => (hkeep g (.inr hg)).2.1⟩
      rw [List.getElem?_append_right (by omega), hcl, Nat.add_sub_cancel_left]
      exact hy
  · rcases List.mem_cons.1 hg with rfl | hg
    · rcases hat with hat | hat
      · exact .inl (List.mem_append_left _ (by rw [← hat, hob]; exact List.mem_singleton.2 rfl))
      · rw [hob] at hat
        have : g = w.heap.size := by simpa using hat
        exact .inr (.inr (by omega))
    · rw [List.flatten_append] at hg
      rcases List.mem_append.1 hg with hg | hg
      · exact .inl (List.mem_append_right _ hg)
      · exact .inr (.inl (by simpa using hg))

/-- What is told of each may be told otherwise. -/
theorem MadeR.map {β : Type} {O' : World → List Value → β → List Nat → Prop} (m : α → β) (hm : ∀ w vs x f, O w vs x f → O' w vs (m x) f) {B : Nat} {w : World} {v : Value} {xs : List α} {fp : List Nat} (h : MadeR k T O B w v xs fp) : MadeR k T O' B w v (xs.map m) fp := by
  obtain ⟨cs, fps, h1, h2, h3, h4, h5⟩ := h
  refine ⟨cs, fps, by simpa using h1, by simpa using h2, h3, h4, fun i y hy => ?_⟩
  rw [List.getElem?_map] at hy
  obtain ⟨x, hx, rfl⟩ := Option.map_eq_some_iff.1 hy
  obtain ⟨vs, f, q1, q2, q3, q4⟩ := h5 i x hx
  exact ⟨vs, f, q1, q2, q3, hm _ _ _ _ q4⟩

theorem OwnRow.map {β : Type} {O' : World → List Value → β → List Nat → Prop} (m : α → β) {w : World} (hm : ∀ vs x f, O w vs x f → O' w vs (m x) f) {v : Value} {xs : List α} {fp : List Nat} (h : OwnRow k T O w v xs fp) : OwnRow k T O' w v (xs.map m) fp := by
  rcases h with ⟨rfl, rfl, a, c, rfl⟩ | ⟨g, c, cur, fps, rfl, h2, h3, rfl, h4⟩
  · exact .inl ⟨rfl, rfl, a, c, rfl⟩
  · refine .inr ⟨g, c, cur, fps, by simp, h2, by simpa using h3, rfl, fun i y hy => ?_⟩
    rw [List.getElem?_map] at hy
    obtain ⟨x, hx, rfl⟩ := Option.map_eq_some_iff.1 hy
    obtain ⟨vs, f, q1, q2, q3, q4⟩ := h4 i x hx
    exact ⟨vs, f, q1, q2, q3, hm _ _ _ q4⟩
end

/-- An expression, with a storey more above nothing. -/
def upX : (d : Nat) → Ex d → Ex (d + 1)
  | 0, e => Empty.elim e
  | d + 1, e => mkX e.K e.N e.S (e.E.map (upX d)) (e.C.map fun c => (upX d c.1, upX d c.2))

theorem wfRow_map {α β : Type} {P : α → Prop} {P' : β → Prop} (m : α → β) (hm : ∀ x, P x → P' (m x)) {xs : List α} (h : WfRow P xs) : WfRow P' (xs.map m) :=
  ⟨by simpa using h.1, fun y hy => by obtain ⟨x, hx, rfl⟩ := List.mem_map.1 hy; exact hm x (h.2 x hx)⟩

theorem upX_wf : ∀ (d : Nat) (x : Ex d), WfX d x → WfX (d + 1) (upX d x) := by
  intro d
  induction d with
  | zero => intro x h; exact h.elim
  | succ d ih =>
    rintro x ⟨h1, h2, h3, h4, h5⟩
    exact ⟨h1, h2, h3, wfRow_map _ ih h4, wfRow_map _ (fun c hc => ⟨ih _ hc.1, ih _ hc.2⟩) h5⟩

theorem szRow_map {α β : Type} {f : α → Nat} {f' : β → Nat} (m : α → β) (hm : ∀ x, f' (m x) = f x) (xs : List α) : szRow f' (xs.map m) = szRow f xs := by
  unfold szRow
  rw [List.length_map, List.map_map]
  congr 2
  exact List.map_congr_left fun x _ => hm x

theorem upX_sz : ∀ (d : Nat) (x : Ex d), szX (d + 1) (upX d x) = szX d x := by
  intro d
  induction d with
  | zero => intro x; exact Empty.elim x
  | succ d ih =>
    intro x
    show x.S.size + szRow (szX (d + 1)) (x.E.map (upX d)) + szRow (ClF (szX (d + 1))) (x.C.map fun c => (upX d c.1, upX d c.2)) = x.S.size + szRow (szX d) x.E + szRow (ClF (szX d)) x.C
    rw [szRow_map (f := szX d) (upX d) ih, szRow_map (f := ClF (szX d)) (fun c : Ex d × Ex d => (upX d c.1, upX d c.2)) (fun c => by show szX (d + 1) (upX d c.1) + szX (d + 1) (upX d c.2) = _; rw [ih, ih]; rfl)]

end Go.Proofs.Ytkfpfijblflcfaa
