/- The names of all kids, told: the model's and the program's. -/
import Derived.Test.YtgmddookohkhlaaKo2M
import Derived.Test.YtgmddookohkhlaaGetTM
import Derived.Test.YtgmddookohkhlaaXk3M
namespace Go.Proofs.Ytgmddookohkhlaa
open Go.RowKit
set_option linter.unusedVariables false

def kNames {d : Nat} (ks : List (DKid d)) : List ByteArray := ks.map (·.Name)
def oNames {d : Nat} (l : List (DOver d)) : List ByteArray := l.flatMap fun o => kNames o.Kids

theorem oNames_take {d : Nat} {l : List (DOver d)} {i : Nat} {o : DOver d} (h : l[i]? = some o) : oNames (l.take (i + 1)) = oNames (l.take i) ++ kNames o.Kids := by
  have hi := (List.getElem?_eq_some_iff.1 h).1
  have he := (List.getElem?_eq_some_iff.1 h).2
  unfold oNames
  rw [List.take_succ_eq_append_getElem hi, List.flatMap_append, he]
  simp
theorem kNames_take {d : Nat} {l : List (DKid d)} {i : Nat} {k : DKid d} (h : l[i]? = some k) : kNames (l.take (i + 1)) = kNames (l.take i) ++ [k.Name] := by
  have hi := (List.getElem?_eq_some_iff.1 h).1
  have he := (List.getElem?_eq_some_iff.1 h).2
  unfold kNames
  rw [List.take_succ_eq_append_getElem hi, List.map_append, he]
  rfl
theorem kNames_len {d : Nat} (l : List (DKid d)) : (kNames l).length = l.length := by simp [kNames]
theorem oNames_len {d : Nat} (l : List (DOver d)) (h : ∀ o ∈ l, o.Kids.length ≤ 8) : (oNames l).length ≤ 8 * l.length := by
  unfold oNames
  induction l with
  | nil => simp
  | cons o r ih =>
    rw [List.flatMap_cons, List.length_append, kNames_len, List.length_cons]
    have h1 := h o (List.mem_cons_self ..)
    have h2 := ih fun x hx => h x (List.mem_cons_of_mem _ hx)
    omega

/-- A row of texts, and the world as it was below. -/
def SrS (B : Nat) (w wr : World) (v : Value) (l : List ByteArray) : Prop := StrRow wr B v l ∧ Below B w wr
theorem SrS.next {B : Nat} {w wr w' : World} {v v' : Value} {l : List ByteArray} {x : ByteArray} {o : Obj} (h : SrS B w wr v l) (hs : B ≤ wr.heap.size) (ho : w'.ownsRow B 9 1 v' (l.length + 1) (l.map Value.string ++ [.string x])) (hg : (wr.alloc o).grownBy w' v.ownBlock) : SrS B w w' v' (l ++ [x]) := by
  refine ⟨?_, (h.2.alloc hs _).grown hg (by simp; omega) (fun k hk => (World.ownsRow.lt h.1 k hk).1)⟩
  unfold StrRow
  rw [List.length_append, List.map_append]
  exact ho

theorem SrS.far {B : Nat} {w wr X w' : World} {v v' : Value} {l : List ByteArray} {x : ByteArray} (h : SrS B w wr v l) (hX : Below wr.heap.size wr X) (hs : B ≤ wr.heap.size) (ho : w'.ownsRow B 9 1 v' (l.length + 1) (l.map Value.string ++ [.string x])) (hg : X.grownBy w' v.ownBlock) : SrS B w w' v' (l ++ [x]) := by
  refine ⟨?_, (h.2.trans (hX.mono hs)).grown hg (Nat.le_trans hs hX.size) (fun k hk => (World.ownsRow.lt h.1 k hk).1)⟩
  unfold StrRow
  rw [List.length_append, List.map_append]
  exact ho
theorem SrS.later {B : Nat} {w wr w' : World} {v : Value} {l : List ByteArray} (h : SrS B w wr v l) (hs : B ≤ wr.heap.size) (hb : Below wr.heap.size wr w') : SrS B w w' v l :=
  ⟨rowKept h.1 fun g hg => hb.block g (World.ownsRow.lt h.1 g hg).2, h.2.trans (hb.mono hs)⟩
theorem new_next {w : World} {o : Obj} (x : Value) : ∀ j u, [x][j]? = some u → ((w.alloc o).alloc (.cells #[x] 9)).cell? (Addr.add ⟨w.heap.size + 1, 0, none⟩ j) = some u := fun j u hu => by
  have hj : j = 0 := by have := (List.getElem?_eq_some_iff.1 hu).1; simp at this; omega
  subst hj
  obtain rfl : u = x := by simpa using hu.symm
  have e : (w.alloc o).heap.size = w.heap.size + 1 := by simp
  rw [Addr.add_lit, ← e, cell_of_row _ _ _ _ _ _ (heap_alloc_new (w.alloc o) _)]
  rfl

set_option maxRecDepth 100000 in
set_option maxHeartbeats 4000000 in
theorem specNames_any (d : Nat) (a : Option Addr) (n c : Nat) (l : List (DOver d)) (w : World) (hr : RowOf 7 (OverR d) w (.slice a n c) l) (hl : l.length = n) (hn : n ≤ 8) (hk : ∀ o ∈ l, o.Kids.length ≤ 8) :
    Calls Try.prog 38 #[.slice a n c] w fun e w' => ∃ v, e = .returned v ∧ Hid (SrS w.heap.size w w' v (oNames l)) := by
  have HR : Hid (RowOf 7 (OverR d) w (.slice a n c) l ∧ l.length = n ∧ ∀ o ∈ l, o.Kids.length ≤ 8) := ⟨hr, hl, hk⟩
  clear hr hl hk
  have H0 : Hid (SrS w.heap.size w (w.alloc (.cells #[] 9)) (.slice (some ⟨w.heap.size, 0, none⟩) 0 0) []) :=
    ⟨⟨by simp, .inr ⟨w.heap.size, 0, #[], rfl, Nat.le_refl _, heap_alloc_new w _, Nat.le_refl _, Nat.zero_le _, by simp, by simp⟩⟩, (Below.refl _ _).alloc (Nat.le_refl _) _⟩
  go_enter Try.func38, Try.ntmps38
  go_wp2_with fail
  go_loopw [3, 4] (fun v x wr => ∃ i : Nat, i ≤ n ∧ x = .int .i64 (i : Int) ∧ Hid (SrS w.heap.size w wr v (oNames (l.take i)))) (fun _ x _ => n - (intOf x).toNat)
  case atStart => exact ⟨0, Nat.zero_le _, rfl, H0.out⟩
  case round =>
    obtain ⟨i, hi, rfl, HM⟩ := hrel
    clear H0
    by_cases hin : i < n
    · obtain ⟨t, ht⟩ : ∃ t, l[i]? = some t := ⟨_, List.getElem?_eq_getElem (by have := HR.out.2.1; omega)⟩
      have hin' : (i : Int) < (n : Int) := by omega
      obtain ⟨b, o, a3, c3, a4, c4, a5, c5, e8, f0, f1, f2, f3, f4, f5, f6, h3, h4, h5⟩ := Over_at HR.out.1 i t ht
      have hk8 : t.Kids.length ≤ 8 := HR.out.2.2 t (List.mem_of_getElem? ht)
      have hN0 : (oNames (l.take i)).length ≤ 64 := by
        have := oNames_len (l.take i) fun o ho => HR.out.2.2 o (List.mem_of_mem_take ho)
        rw [List.length_take] at this
        omega
      have HN0 : Hid ((oNames (l.take i)).length ≤ 64) := hN0
      obtain ⟨m, hm⟩ : ∃ m, t.Kids.length = m := ⟨_, rfl⟩
      rw [hm] at f3 h3 hk8
      have HT : Hid (l[i]? = some t ∧ t.Kids.length = m) := ⟨ht, hm⟩
      have HF3 : Hid (∀ V : World, Below w.heap.size w V → V.cell? ⟨b, o + i * 7 + 3, none⟩ = some (.slice a3 m c3)) := fun V hV => cell_later hV f3
      have HK : Hid (RowOf 7 (KidR d) w (.slice a3 m c3) t.Kids) := h3
      have HE8 : Hid (a = some ⟨b, o, none⟩) := e8
      subst e8
      clear ht hm f0 f1 f2 f3 f4 f5 f6 h3 h4 h5 hN0
      go_wp2_with fail
      go_loopw [3, 5] (fun v x wr => ∃ k : Nat, k ≤ m ∧ x = .int .i64 (k : Int) ∧ Hid (SrS w.heap.size w wr v (oNames (l.take i) ++ kNames (t.Kids.take k)))) (fun _ x _ => m - (intOf x).toNat)
      case atStart => exact ⟨0, Nat.zero_le _, rfl, by show SrS _ _ _ _ _; simpa [kNames] using HM.out⟩
      case round =>
        obtain ⟨k, hk, rfl, HI⟩ := hrel
        have HBW : Hid (Below w.heap.size w wr) := HI.out.2
        have g3 := HF3.out wr HBW.out
        by_cases hkm : k < m
        · obtain ⟨u, hu⟩ : ∃ u, t.Kids[k]? = some u := ⟨_, List.getElem?_eq_getElem (by have := HT.out.2; omega)⟩
          obtain ⟨b', o', i2, i3, s4, a9, l9, c9, e9, q0, q1, q2, q3, q4, q5, q6, qT⟩ := Kid_at HK.out k u hu
          have hkm' : (k : Int) < (m : Int) := by omega
          have r0 := cell_later HBW.out q0
          have hws := HBW.out.size
          obtain ⟨i0, hi0, hz0, hz1, hz2⟩ := info_parts Try.infoStr
          have hle : (oNames (l.take i) ++ kNames (t.Kids.take k)).length ≤ 72 := by
            rw [List.length_append, kNames_len, List.length_take]
            have := HN0.out
            omega
          obtain ⟨L, hL⟩ : ∃ L, oNames (l.take i) ++ kNames (t.Kids.take k) = L := ⟨_, rfl⟩
          have HL : Hid (oNames (l.take i) ++ kNames (t.Kids.take k) = L) := hL
          rw [hL] at hle HI
          have hrow : wr.ownsRow w.heap.size 9 1 u3 L.length (L.map Value.string) := HI.out.1
          have HU : Hid (t.Kids[k]? = some u) := hu
          rw [e9] at g3
          clear hu q0 q1 q2 q3 q4 q5 q6 qT e9 hL
          go_wp2_with (at_builtin; refine wpList_append_own _ rfl _ _ 62 rfl w.heap.size 9 i0 (.string ⟨#[]⟩) 1 16 Try.underlying62 hi0 hz0 hz1 hz2 rfl (by decide) _ _ _ rfl (hrow.alloc _) ⟨wr.heap.size, 0, none⟩ 1 1 [.string u.Name] rfl rfl (new_one (.string u.Name) 9 rfl) (by intro v hv; obtain rfl := List.mem_singleton.1 hv; rfl) (by unfold maxLen; omega) (by omega) (by simp; omega) ?_)
          intro v' w' ho hg _
          have HX : Hid (SrS w.heap.size w w' v' (oNames (l.take i) ++ kNames (t.Kids.take (k + 1)))) := by
            show SrS _ _ _ _ _
            rw [kNames_take HU.out, ← List.append_assoc, HL.out]
            exact HI.out.next hws ho hg
          clear HI hrow ho hg g3 r0
          go_wp2_with fail
          go_roundw
          case rel => exact ⟨k + 1, by omega, by go_num, HX⟩
          case measure => simp [intOf]; omega
        · obtain rfl : k = m := by omega
          have hkl : ¬ (k : Int) < (k : Int) := by omega
          have HX : Hid (SrS w.heap.size w wr u3 (oNames (l.take (i + 1)))) := by
            show SrS _ _ _ _ _
            have := HI.out
            have e : t.Kids.take k = t.Kids := List.take_of_length_le (by rw [HT.out.2]; omega)
            rw [e] at this
            rw [oNames_take HT.out.1]
            exact this
          clear HI
          go_wp2_with fail
          go_roundw
          case rel => exact ⟨i + 1, by omega, by go_num, HX⟩
          case measure => simp [intOf]; omega
    · obtain rfl : i = n := by omega
      have hil : ¬ (i : Int) < (i : Int) := by omega
      have HX : Hid (SrS w.heap.size w wr u3 (oNames l)) := by
        show SrS _ _ _ _ _
        have := HM.out
        rw [List.take_of_length_le (by rw [HR.out.2.1]; omega)] at this
        exact this
      clear HM
      go_wp2_with fail
      go_ret
      exact ⟨_, rfl, HX⟩

set_option maxRecDepth 100000 in
set_option maxHeartbeats 4000000 in
theorem implNames_any (d : Nat) (a : Option Addr) (n c : Nat) (l : List (DOver d)) (w : World) (hr : RowOf 7 (OverR d) w (.slice a n c) l) (hl : l.length = n) (hn : n ≤ 8) (hk : ∀ o ∈ l, o.Kids.length ≤ 8) :
    Calls Try.prog 43 #[.slice a n c] w fun e w' => ∃ v, e = .returned v ∧ Hid (SrS w.heap.size w w' v (oNames l)) := by
  have HR : Hid (RowOf 7 (OverR d) w (.slice a n c) l ∧ l.length = n ∧ ∀ o ∈ l, o.Kids.length ≤ 8) := ⟨hr, hl, hk⟩
  clear hr hl hk
  go_enter Try.func43, Try.ntmps43
  go_wp2_with fail
  go_loopw [3, 10] (fun v x wr => ∃ i : Nat, i ≤ n ∧ x = .int .i64 (i : Int) ∧ Hid (SrS w.heap.size w wr v (oNames (l.take i)))) (fun _ x _ => n - (intOf x).toNat)
  case atStart => exact ⟨0, Nat.zero_le _, rfl, ⟨by simp [oNames], .inl ⟨rfl, by simp [oNames]⟩⟩, Below.refl _ _⟩
  case round =>
    obtain ⟨i, hi, rfl, HM⟩ := hrel
    by_cases hin : i < n
    · obtain ⟨t, ht⟩ : ∃ t, l[i]? = some t := ⟨_, List.getElem?_eq_getElem (by have := HR.out.2.1; omega)⟩
      have hin' : (i : Int) < (n : Int) := by omega
      have HBW : Hid (Below w.heap.size w wr) := HM.out.2
      obtain ⟨b, o, a3, c3, a4, c4, a5, c5, e8, f0, f1, f2, f3, f4, f5, f6, h3, h4, h5⟩ := Over_at HR.out.1 i t ht
      have hk8 : t.Kids.length ≤ 8 := HR.out.2.2 t (List.mem_of_getElem? ht)
      have hN0 : (oNames (l.take i)).length ≤ 64 := by
        have := oNames_len (l.take i) fun o ho => HR.out.2.2 o (List.mem_of_mem_take ho)
        rw [List.length_take] at this
        omega
      have HN0 : Hid ((oNames (l.take i)).length ≤ 64) := hN0
      obtain ⟨m, hm⟩ : ∃ m, t.Kids.length = m := ⟨_, rfl⟩
      rw [hm] at f3 h3 hk8
      have HT : Hid (l[i]? = some t ∧ t.Kids.length = m) := ⟨ht, hm⟩
      have HK : Hid (RowOf 7 (KidR d) w (.slice a3 m c3) t.Kids) := h3
      replace f0 := cell_later HBW.out f0
      replace f1 := cell_later HBW.out f1
      replace f2 := cell_later HBW.out f2
      replace f3 := cell_later HBW.out f3
      replace f4 := cell_later HBW.out f4
      replace f5 := cell_later HBW.out f5
      replace f6 := cell_later HBW.out f6
      subst e8
      clear ht hm h3 h4 h5 hN0
      obtain ⟨W1, hW1⟩ : ∃ W, W = wr.alloc (.cells #[.int .i64 t.Way, .int .i64 t.MaxR, .int .i64 t.MaxT, .slice a3 m c3, .slice a4 t.Pids.length c4, .slice a5 t.Times.length c5, .bool t.Down] 30) := ⟨_, rfl⟩
      have hA1 : Below wr.heap.size wr W1 := by rw [hW1]; exact (Below.refl _ _).alloc (Nat.le_refl _) _
      have HM1 : Hid (SrS w.heap.size w W1 u3 (oNames (l.take i))) := HM.out.later HBW.out.size hA1
      clear hA1
      go_wp2_with fail
      rw [← hW1]
      clear hW1 f0 f1 f2 f3 f4 f5 f6
      go_loopw [3, 17] (fun v x wv => ∃ k : Nat, k ≤ m ∧ x = .int .i64 (k : Int) ∧ Hid (SrS w.heap.size w wv v (oNames (l.take i) ++ kNames (t.Kids.take k)))) (fun _ x _ => m - (intOf x).toNat)
      case atStart => exact ⟨0, Nat.zero_le _, rfl, by show SrS _ _ _ _ _; simpa [kNames] using HM1.out⟩
      case round =>
        obtain ⟨k, hk, rfl, HI⟩ := hrel
        by_cases hkm : k < m
        · obtain ⟨u, hu⟩ : ∃ u, t.Kids[k]? = some u := ⟨_, List.getElem?_eq_getElem (by have := HT.out.2; omega)⟩
          obtain ⟨b', o', i2, i3, s4, a9, l9, c9, e9, q0, q1, q2, q3, q4, q5, q6, qT⟩ := Kid_at (HK.out.later (KidR.lasts d) HI.out.2) k u hu
          have hkm' : (k : Int) < (m : Int) := by omega
          have hws : w.heap.size ≤ wr.heap.size := HI.out.2.size
          obtain ⟨i0, hi0, hz0, hz1, hz2⟩ := info_parts Try.infoStr
          have hle : (oNames (l.take i) ++ kNames (t.Kids.take k)).length ≤ 72 := by
            rw [List.length_append, kNames_len, List.length_take]
            have := HN0.out
            omega
          obtain ⟨L, hL⟩ : ∃ L, oNames (l.take i) ++ kNames (t.Kids.take k) = L := ⟨_, rfl⟩
          have HL : Hid (oNames (l.take i) ++ kNames (t.Kids.take k) = L) := hL
          rw [hL] at hle HI
          have hrow : wr.ownsRow w.heap.size 9 1 u3 L.length (L.map Value.string) := HI.out.1
          have HU : Hid (t.Kids[k]? = some u) := hu
          subst e9
          clear hu hL qT
          go_wp2_with (at_builtin; refine wpList_append_own _ rfl _ _ 62 rfl w.heap.size 9 i0 (.string ⟨#[]⟩) 1 16 Try.underlying62 hi0 hz0 hz1 hz2 rfl (by decide) _ _ _ rfl ((hrow.alloc _).alloc _) ⟨wr.heap.size + 1, 0, none⟩ 1 1 [.string u.Name] rfl rfl (new_next (.string u.Name)) (by intro v hv; obtain rfl := List.mem_singleton.1 hv; rfl) (by unfold maxLen; omega) (by omega) (by simp; omega) ?_)
          intro v' w' ho hg _
          have HX : Hid (SrS w.heap.size w w' v' (oNames (l.take i) ++ kNames (t.Kids.take (k + 1)))) := by
            show SrS _ _ _ _ _
            rw [kNames_take HU.out, ← List.append_assoc, HL.out]
            have hX : ∀ o1 o2 : Obj, Below wr.heap.size wr ((wr.alloc o1).alloc o2) := fun o1 o2 => ((Below.refl _ _).alloc (Nat.le_refl _) _).alloc (by simp) _
            exact HI.out.far (hX _ _) hws ho hg
          clear HI hrow ho hg q0 q1 q2 q3 q4 q5 q6
          go_wp2_with fail
          go_roundw
          case rel => exact ⟨k + 1, by omega, by go_num, HX⟩
          case measure => simp [intOf]; omega
        · obtain rfl : k = m := by omega
          have hkl : ¬ (k : Int) < (k : Int) := by omega
          have HX : Hid (SrS w.heap.size w wr u3 (oNames (l.take (i + 1)))) := by
            show SrS _ _ _ _ _
            have := HI.out
            have e : t.Kids.take k = t.Kids := List.take_of_length_le (by rw [HT.out.2]; omega)
            rw [e] at this
            rw [oNames_take HT.out.1]
            exact this
          clear HI
          go_wp2_with fail
          go_roundw
          case rel => exact ⟨i + 1, by omega, by go_num, HX⟩
          case measure => simp [intOf]; omega
    · obtain rfl : i = n := by omega
      have hil : ¬ (i : Int) < (i : Int) := by omega
      have HX : Hid (SrS w.heap.size w wr u3 (oNames l)) := by
        show SrS _ _ _ _ _
        have := HM.out
        rw [List.take_of_length_le (by rw [HR.out.2.1]; omega)] at this
        exact this
      clear HM
      go_wp2_with fail
      go_ret
      exact ⟨_, rfl, HX⟩

end Go.Proofs.Ytgmddookohkhlaa

/- How many kids are the overseer at a place: the model's. -/
namespace Go.Proofs.Ytgmddookohkhlaa
open Go.RowKit
set_option linter.unusedVariables false

def kSubs {d : Nat} (ks : List (DKid d)) : List Int := ks.map (·.Sub)
def oSubs {d : Nat} (l : List (DOver d)) : List Int := l.flatMap fun o => kSubs o.Kids

theorem oSubs_take {d : Nat} {l : List (DOver d)} {i : Nat} {o : DOver d} (h : l[i]? = some o) : oSubs (l.take (i + 1)) = oSubs (l.take i) ++ kSubs o.Kids := by
  have hi := (List.getElem?_eq_some_iff.1 h).1
  have he := (List.getElem?_eq_some_iff.1 h).2
  unfold oSubs
  rw [List.take_succ_eq_append_getElem hi, List.flatMap_append, he]
  simp
theorem kSubs_take {d : Nat} {l : List (DKid d)} {i : Nat} {k : DKid d} (h : l[i]? = some k) : kSubs (l.take (i + 1)) = kSubs (l.take i) ++ [k.Sub] := by
  have hi := (List.getElem?_eq_some_iff.1 h).1
  have he := (List.getElem?_eq_some_iff.1 h).2
  unfold kSubs
  rw [List.take_succ_eq_append_getElem hi, List.map_append, he]
  rfl
theorem kSubs_len {d : Nat} (l : List (DKid d)) : (kSubs l).length = l.length := by simp [kSubs]
theorem oSubs_len {d : Nat} (l : List (DOver d)) : (oSubs l).length ≤ (l.map (szOverD d)).sum := by
  unfold oSubs
  induction l with
  | nil => simp
  | cons o r ih =>
    rw [List.flatMap_cons, List.length_append, kSubs_len, List.map_cons, List.sum_cons]
    have h1 : o.Kids.length ≤ szOverD d o := Nat.le_trans (szRow_len (szKidD d) o.Kids) (Nat.le_add_right _ _)
    omega
theorem oSubs_part {d : Nat} (l : List (DOver d)) (i : Nat) : (oSubs (l.take i)).length ≤ (oSubs l).length := by
  conv => rhs; rw [← List.take_append_drop i l]
  unfold oSubs
  rw [List.flatMap_append, List.length_append]
  omega
theorem cnt_le (l : List Int) (x : Int) : l.count x ≤ l.length := List.count_le_length ..
theorem cnt_yes (l : List Int) (x : Int) : (l ++ [x]).count x = l.count x + 1 := by rw [List.count_append]; simp
theorem cnt_no (l : List Int) {x y : Int} (h : ¬ y = x) : (l ++ [y]).count x = l.count x := by
  rw [List.count_append, List.count_singleton]
  have : (y == x) = false := by simp [h]
  simp [this]

set_option maxRecDepth 100000 in
set_option maxHeartbeats 4000000 in
theorem specSubs_any (d : Nat) (a : Option Addr) (n c : Nat) (l : List (DOver d)) (at_ : Int) (w : World) (hr : RowOf 7 (OverR d) w (.slice a n c) l) (hl : l.length = n) (hn : n ≤ 8) (hk : (oSubs l).length ≤ 1048576) :
    Calls Try.prog 36 #[.slice a n c, .int .i64 at_] w fun e w' => e = .returned (.int .i64 ((oSubs l).count at_ : Nat)) ∧ Below w.heap.size w w' := by
  have HR : Hid (RowOf 7 (OverR d) w (.slice a n c) l ∧ l.length = n ∧ (oSubs l).length ≤ 1048576) := ⟨hr, hl, hk⟩
  clear hr hl hk
  go_enter Try.func36, Try.ntmps36
  go_wp2_with fail
  go_loopw [5, 6] (fun v x wr => ∃ i : Nat, i ≤ n ∧ x = .int .i64 (i : Int) ∧ v = .int .i64 ((oSubs (l.take i)).count at_ : Nat) ∧ Hid (Below w.heap.size w wr)) (fun _ x _ => n - (intOf x).toNat)
  case atStart => exact ⟨0, Nat.zero_le _, rfl, by simp [oSubs], Below.refl _ _⟩
  case round =>
    obtain ⟨i, hi, rfl, rfl, HB⟩ := hrel
    by_cases hin : i < n
    · obtain ⟨t, ht⟩ : ∃ t, l[i]? = some t := ⟨_, List.getElem?_eq_getElem (by have := HR.out.2.1; omega)⟩
      have hin' : (i : Int) < (n : Int) := by omega
      obtain ⟨b, o, a3, c3, a4, c4, a5, c5, e8, f0, f1, f2, f3, f4, f5, f6, h3, h4, h5⟩ := Over_at HR.out.1 i t ht
      obtain ⟨m, hm⟩ : ∃ m, t.Kids.length = m := ⟨_, rfl⟩
      rw [hm] at f3 h3
      have HT : Hid (l[i]? = some t ∧ t.Kids.length = m ∧ (oSubs (l.take i)).length + m ≤ 1048576) := ⟨ht, hm, by
        have := oSubs_part l (i + 1)
        rw [oSubs_take ht, List.length_append, kSubs_len, hm] at this
        have := HR.out.2.2
        omega⟩
      have hm1 : m ≤ 1048576 := by have := HT.out.2.2; omega
      have HF3 : Hid (∀ V : World, Below w.heap.size w V → V.cell? ⟨b, o + i * 7 + 3, none⟩ = some (.slice a3 m c3)) := fun V hV => cell_later hV f3
      have HK : Hid (RowOf 7 (KidR d) w (.slice a3 m c3) t.Kids) := h3
      obtain ⟨C0, hC0⟩ : ∃ C, (oSubs (l.take i)).count at_ = C := ⟨_, rfl⟩
      have HC0 : Hid ((oSubs (l.take i)).count at_ = C0) := hC0
      have HA8 : Hid (∀ V : World, Below w.heap.size w V → True) := fun _ _ => trivial
      rw [hC0]
      subst e8
      clear ht hm f0 f1 f2 f3 f4 f5 f6 h3 h4 h5 hC0
      go_wp2_with fail
      go_loopw [5, 7] (fun v x wr => ∃ (k C : Nat), k ≤ m ∧ x = .int .i64 (k : Int) ∧ v = .int .i64 (C : Nat) ∧ Hid ((oSubs (l.take i) ++ kSubs (t.Kids.take k)).count at_ = C) ∧ Hid (Below w.heap.size w wr)) (fun _ x _ => m - (intOf x).toNat)
      case atStart => exact ⟨0, C0, Nat.zero_le _, rfl, rfl, by show _ = _; simpa [kSubs] using HC0.out, HB.out⟩
      case round =>
        obtain ⟨k, C, hk, rfl, rfl, HC, HBW⟩ := hrel
        have g3 := HF3.out wr HBW.out
        by_cases hkm : k < m
        · obtain ⟨u, hu⟩ : ∃ u, t.Kids[k]? = some u := ⟨_, List.getElem?_eq_getElem (by have := HT.out.2.1; omega)⟩
          obtain ⟨b', o', i2, i3, s4, a9, l9, c9, e9, q0, q1, q2, q3, q4, q5, q6, qT⟩ := Kid_at HK.out k u hu
          have hkm' : (k : Int) < (m : Int) := by omega
          have r6 := cell_later HBW.out q6
          have hCm : C ≤ 1048576 := by
            rw [← HC.out]
            refine Nat.le_trans (cnt_le _ _) ?_
            rw [List.length_append, kSubs_len, List.length_take]
            have := HT.out.2.2
            omega
          have HU : Hid (t.Kids[k]? = some u) := hu
          rw [e9] at g3
          clear hu q0 q1 q2 q3 q4 q5 q6 qT e9
          by_cases hs : u.Sub = at_
          · have hsb : (u.Sub == at_) = true := by simp [hs]
            have HX : Hid ((oSubs (l.take i) ++ kSubs (t.Kids.take (k + 1))).count at_ = C + 1) := by
              show _ = _
              rw [kSubs_take HU.out, ← List.append_assoc, hs, cnt_yes, HC.out]
            clear hs
            go_wp2_with fail
            go_roundw
            case rel => exact ⟨k + 1, C + 1, by omega, by go_num, by go_num, HX, HBW⟩
            case measure => simp [intOf]; omega
          · have hsb : (u.Sub == at_) = false := by simp [hs]
            have HX : Hid ((oSubs (l.take i) ++ kSubs (t.Kids.take (k + 1))).count at_ = C) := by
              show _ = _
              rw [kSubs_take HU.out, ← List.append_assoc, cnt_no _ hs, HC.out]
            clear hs
            go_wp2_with fail
            go_roundw
            case rel => exact ⟨k + 1, C, by omega, by go_num, by go_num, HX, HBW⟩
            case measure => simp [intOf]; omega
        · obtain rfl : k = m := by omega
          have hkl : ¬ (k : Int) < (k : Int) := by omega
          have HX : Hid ((oSubs (l.take (i + 1))).count at_ = C) := by
            show _ = _
            have := HC.out
            have e : t.Kids.take k = t.Kids := List.take_of_length_le (by rw [HT.out.2.1]; omega)
            rw [e] at this
            rw [oSubs_take HT.out.1]
            exact this
          clear HC
          go_wp2_with fail
          go_roundw
          case rel => exact ⟨i + 1, by omega, by go_num, by rw [HX.out], HBW⟩
          case measure => simp [intOf]; omega
    · obtain rfl : i = n := by omega
      have hil : ¬ (i : Int) < (i : Int) := by omega
      have HX : Hid ((oSubs (l.take i)).count at_ = (oSubs l).count at_) := by
        show _ = _
        rw [List.take_of_length_le (by rw [HR.out.2.1]; omega)]
      rw [HX.out]
      go_wp2_with fail
      go_ret
      exact ⟨rfl, HB.out⟩

end Go.Proofs.Ytgmddookohkhlaa
