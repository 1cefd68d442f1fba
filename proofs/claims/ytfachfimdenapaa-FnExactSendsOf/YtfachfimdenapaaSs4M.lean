/- What SendsOf answers is within bounds: how many marks, how long. -/
import Derived.Test.YtfachfimdenapaaSs3M
import Derived.Test.YtfachfimdenapaaMk0M
import Derived.Test.YtfachfimdenapaaLawTM
import Derived.Test.YtfachfimdenapaaTReadM
namespace Go.Proofs.Ytfachfimdenapaa
open Go.RowKit
set_option linter.unusedVariables false

theorem SendsT.len {d : Nat} {k : Int} {ts : List (Tm (d + 1 + 1))} {ok : Bool} {l : List (DSend d)} (h : SendsT d k ts ok l) : l.length ≤ ts.length := by
  rcases h with ⟨_, _, _, rfl⟩ | ⟨_, _, rfl⟩
  · simp
  · simp
theorem SendsT.wf {d : Nat} {k : Int} {ts : List (Tm (d + 1 + 1))} {ok : Bool} {l : List (DSend d)} (h : SendsT d k ts ok l) (hw : WfL (d + 1 + 1) ts) : WfRow (WfSend d) l := by
  refine ⟨Nat.le_trans h.len hw.1, fun s hs => ?_⟩
  rcases h with ⟨_, _, hg, rfl⟩ | ⟨_, _, rfl⟩
  · obtain ⟨x, hx, rfl⟩ := List.mem_map.1 hs
    obtain ⟨a, b, hL, he⟩ := good_open (hg x hx)
    have h1 := (hw.2 x hx).2.2.2
    rw [hL] at h1
    rw [he]
    exact ⟨h1.2 a (by simp), h1.2 b (by simp)⟩
  · cases hs
theorem ck_part {d : Nat} {x : Tm (d + 1 + 1)} (h : ¬ NoS d x) : ckSend d (sendOf d x) ≤ 3 * (1 + cntL (d + 1) x.L) := by
  obtain ⟨a, b, hL, he⟩ := good_open h
  rw [he, hL]
  have : cntL (d + 1) [a, b] = (1 + cntL d a.L) + ((1 + cntL d b.L) + 0) := rfl
  rw [this]
  unfold ckSend
  show 1 + (1 + (1 + (3 * cntL d a.L + (1 + (1 + (1 + 3 * cntL d b.L)))))) ≤ _
  omega
theorem SendsT.ck {d : Nat} {k : Int} {ts : List (Tm (d + 1 + 1))} {ok : Bool} {l : List (DSend d)} (h : SendsT d k ts ok l) : (l.map (ckSend d)).sum ≤ 3 * cntL (d + 1 + 1) ts := by
  rcases h with ⟨_, _, hg, rfl⟩ | ⟨_, _, rfl⟩
  · have hg' : ∀ x ∈ ts, ¬ NoS d x := hg
    show _ ≤ 3 * (ts.map fun t => 1 + cntL (d + 1) t.L).sum
    clear hg
    induction ts with
    | nil => simp
    | cons x xs ih =>
      have h1 := ih fun y hy => hg' y (by simp [hy])
      have h2 := ck_part (hg' x (by simp))
      simp only [List.map_cons, List.sum_cons]
      omega
  · simp

end Go.Proofs.Ytfachfimdenapaa
