/- Contract: the model's list of all that is reached; how many. -/
import Derived.Test.YtoefeooldcbfiaaLayS
import Derived.Test.YtoefeooldcbfiaaHsV
namespace Go.Proofs.Ytoefeooldcbfiaa
open Go.RowKit Go.Maps

/-- How far the sweep over all layers has come. -/
def allTo (wl : List UInt8) (k i : Nat) : List (List UInt8) := insAll ((List.range k).flatMap (lay nxL wl) ++ (lay nxL wl k).take i) []
theorem allTo_start (wl : List UInt8) : allTo wl 0 0 = [] := by simp [allTo, insAll]
theorem allTo_rising (wl : List UInt8) (k i : Nat) : Rising (allTo wl k i) := rising_insAll _ _ (by simp [Rising])
theorem allTo_next (wl : List UInt8) (k i : Nat) (h : i < (lay nxL wl k).length) : allTo wl k (i + 1) = ins (lay nxL wl k)[i] (allTo wl k i) := by
  unfold allTo
  rw [List.take_succ_eq_append_getElem h, ← List.append_assoc, insAll_snoc]
theorem allTo_row (wl : List UInt8) (k : Nat) : allTo wl (k + 1) 0 = allTo wl k (lay nxL wl k).length := by
  unfold allTo
  rw [List.take_length, List.range_succ, List.flatMap_append]
  simp
theorem allTo_end (wl : List UInt8) (d : Nat) : allTo wl d 0 = allL nxL wl d := by simp [allTo, allL]
theorem allTo_few {n : Nat} {wl : List UInt8} (hg : goodT n wl) (k i : Nat) : (allTo wl k i).length ≤ 59049 := by
  refine few_good (n := n) (rising_nodup (allTo_rising wl k i)) fun x hx => ?_
  unfold allTo at hx
  rw [mem_insAll] at hx
  rcases hx with hx | hx
  · rw [List.mem_append] at hx
    rcases hx with hx | hx
    · obtain ⟨j, _, hx⟩ := List.mem_flatMap.1 hx
      exact (lay_good (steps_line n) hg j x hx).1
    · exact (lay_good (steps_line n) hg k x (List.mem_of_mem_take hx)).1
  · cases hx

theorem ok_len {w : World} {v : Value} {l : List (List UInt8)} (h : StOk w v l) : ∃ A c, v = .slice A l.length c := by
  obtain ⟨A, c, e, _⟩ := h.at
  exact ⟨A, c, e⟩
theorem arr_size {wl : List UInt8} {d : Nat} {w : World} {b n : Nat} {D : DataW Unit} (h : w.ownsMap Try.prog 9 arrR b n D) (hA : AllV nxL wl D d []) : Maps.size D = (allL nxL wl d).length :=
  size_zero h Try.keysS Try.underlying9 _ (rising_nodup (allL_rising d)) fun v => by
    rw [mem_allL]
    constructor
    · rintro ⟨k, hk, hv⟩
      exact (hA.1 k v hk hv).1
    · intro hv
      rcases hA.2.2 v hv with h | h
      · exact h
      · simp at h
end Go.Proofs.Ytoefeooldcbfiaa
