/- Contract: the program's dead ends. -/
import Derived.Test.YtoefeooldcbfiaaMvsA
namespace Go.Proofs.Ytoefeooldcbfiaa
open Go.RowKit Go.Maps

/-- A line from which no move leads on. -/
def endP (v : List UInt8) (_ : Nat) : Bool := (nxL v).isEmpty
theorem blocked_is {c : Nat} {x : List UInt8} (hg : goodT c x) : ((mvsOr (canM (str x)) (str x)).length == 0) = endP x 0 := by
  have : (nxL x).length = (mvsOr (canM (str x)) (str x)).length := by rw [nxL_at x hg.1]; simp
  unfold endP
  rw [← this]
  cases nxL x <;> rfl
/-- The map while dead ends are picked. -/
def EndV (wl : List UInt8) (d : Nat) (us : List (List UInt8)) (D : DataW Unit) : Prop :=
  (∀ j v, j < d → v ∈ lay nxL wl j → (v ∉ us ∨ endP v 0 = true) → hasV D v (arrD j (wr (pc nxL wl j v)))) ∧
    ∀ v, Maps.has D (.string v) = true → ∃ j, j < d ∧ v ∈ lay nxL wl j ∧ (v ∉ us ∨ endP v 0 = true)
theorem endV_start {wl : List UInt8} {d : Nat} {D : DataW Unit} (h : AllV nxL wl D d []) : EndV wl d [] D :=
  ⟨fun j v hj hv _ => h.1 j v hj hv, fun v hv => by
    rcases h.2.2 v hv with ⟨j, hj, hv⟩ | hv
    · exact ⟨j, hj, hv, .inl (by simp)⟩
    · simp at hv⟩
theorem endV_keep {wl : List UInt8} {d : Nat} {us : List (List UInt8)} {x : List UInt8} {D : DataW Unit} (h : EndV wl d us D) (hx : endP x 0 = true) : EndV wl d (us ++ [x]) D := by
  refine ⟨fun j v hj hv hc => h.1 j v hj hv ?_, fun v hv => ?_⟩
  · rcases hc with hc | hc
    · exact .inl (by simp at hc; exact hc.1)
    · exact .inr hc
  · obtain ⟨j, hj, hvl, hc⟩ := h.2 v hv
    refine ⟨j, hj, hvl, ?_⟩
    rcases hc with hc | hc
    · by_cases e : v = x
      · subst e; exact .inr hx
      · exact .inl (by simp [hc, e])
    · exact .inr hc
theorem endV_drop {wl : List UInt8} {d : Nat} {us : List (List UInt8)} {x : List UInt8} {D : DataW Unit} (h : EndV wl d us D) (hx : endP x 0 = false) : EndV wl d (us ++ [x]) (D.del (.string x)) := by
  refine ⟨fun j v hj hv hc => ?_, fun v hv => ?_⟩
  · rcases hc with hc | hc
    · simp at hc
      exact hasV_del (h.1 j v hj hv (.inl hc.1)) hc.2
    · exact hasV_del (h.1 j v hj hv (.inr hc)) fun e => by rw [e, hx] at hc; cases hc
  · obtain ⟨hne, hv⟩ := has_del hv
    obtain ⟨j, hj, hvl, hc⟩ := h.2 v hv
    refine ⟨j, hj, hvl, ?_⟩
    rcases hc with hc | hc
    · exact .inl (by simp [hc, hne])
    · exact .inr hc
theorem endV_end {wl : List UInt8} {d : Nat} {us : List (List UInt8)} {D : DataW Unit} (h : EndV wl d us D) (hall : ∀ j v, j < d → v ∈ lay nxL wl j → v ∈ us) : ArrV wl d endP D :=
  ⟨fun j v hj hv hp => h.1 j v hj hv (.inr hp), fun v hv => by
    obtain ⟨j, hj, hvl, hc⟩ := h.2 v hv
    rcases hc with hc | hc
    · exact absurd (hall j v hj hvl) hc
    · exact ⟨j, hj, hvl, hc⟩⟩

end Go.Proofs.Ytoefeooldcbfiaa
