/- All that is reached, and all dead ends: both sides, and the laws' walks. -/
import Derived.Test.YtoefeooldcbfiaaReAll
import Derived.Test.YtoefeooldcbfiaaOrd
import Derived.Test.YtoefeooldcbfiaaLs
import Derived.Test.YtoefeooldcbfiaaStop2
namespace Go.Proofs.Ytoefeooldcbfiaa
open Go.RowKit Go.Maps

theorem lsNo (w : World) : LsPost [] false w (.returned (.tuple #[.slice none 0 0, .bool false])) w := ⟨none, 0, rfl, fun k hk => by simp at hk, Below.refl _ _⟩
theorem all_few {n : Nat} {wl : List UInt8} (hg : goodT n wl) (d : Nat) : (allL nxL wl d).length ≤ 59049 :=
  few_good (rising_nodup (allL_rising d)) fun v hv => by
    obtain ⟨k, _, hk⟩ := (mem_allL d v).1 hv
    exact (lay_good (steps_line n) hg k v hk).1
theorem all_has {wl : List UInt8} {d : Nat} {D : DataW Unit} (hA : AllV nxL wl D d []) (v : List UInt8) : v ∈ allL nxL wl d ↔ Maps.has D (.string v) = true := by
  rw [mem_allL]
  constructor
  · rintro ⟨k, hk, hv⟩
    exact (hA.1 k v hk hv).1
  · intro hv
    rcases hA.2.2 v hv with h | h
    · exact h
    · simp at h
theorem small_max {s : ByteArray} (h : ¬ (1048576 : Int) < (s.size : Int)) : s.size ≤ maxLen := by unfold maxLen; omega
/-- The dead ends, in order. -/
def endL (wl : List UInt8) (d : Nat) : List (List UInt8) := (allL nxL wl d).filter fun v => endP v 0
theorem endL_rising (wl : List UInt8) (d : Nat) : Rising (endL wl d) := (allL_rising d).filter _
end Go.Proofs.Ytoefeooldcbfiaa
