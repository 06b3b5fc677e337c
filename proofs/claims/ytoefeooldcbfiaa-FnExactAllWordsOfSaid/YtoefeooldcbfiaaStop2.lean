/- The shortest plays that end: both sides, and the law's walk. -/
import Derived.Test.YtoefeooldcbfiaaStops
import Derived.Test.YtoefeooldcbfiaaLayS
namespace Go.Proofs.Ytoefeooldcbfiaa
open Go.RowKit Go.Maps

theorem end_last {wl : List UInt8} {d : Nat} (hd : IsDep nxL wl d) {x : List UInt8} (hx : x ∈ lay nxL wl (d - 1)) : endP x 0 = true := by
  have h1 := hd.1
  unfold endP
  rw [List.isEmpty_iff, List.eq_nil_iff_forall_not_mem]
  intro v hv
  have : v ∈ lay nxL wl (d - 1 + 1) := (mem_lay_next _ v).2 ⟨x, hx, hv⟩
  rw [show d - 1 + 1 = d by omega, hd.2.1] at this
  cases this
theorem end_moves (x : List UInt8) : ((mvsTo (canM (str x)) (str x) (str x).size).length == 0) = endP x 0 := by
  have : (nxL x).length = (mvsTo (canM (str x)) (str x) (str x).size).length := by simp [nxL]
  unfold endP
  rw [← this]
  cases nxL x <;> rfl
theorem len_zero_int (n : Nat) : ((n : Int) == 0) = (n == 0) := by rw [Bool.eq_iff_iff]; simp

/-- The first layer with a dead end. -/
def StopK (wl : List UInt8) (d k : Nat) : Prop := k < d ∧ (∃ v, v ∈ lay nxL wl k ∧ endP v 0 = true) ∧ ∀ j v, j < k → v ∈ lay nxL wl j → endP v 0 = false

end Go.Proofs.Ytoefeooldcbfiaa
