/- How many plays are ended: both sides, and the law's walk. -/
import Derived.Test.YtoefeooldcbfiaaAt
import Derived.Test.YtoefeooldcbfiaaStop2
namespace Go.Proofs.Ytoefeooldcbfiaa
open Go.RowKit Go.Maps

/-- The plays to the dead ends among some lines of a layer. -/
def sE (wl : List UInt8) (k : Nat) (l : List (List UInt8)) : Nat := (l.map fun v => if endP v 0 then pc nxL wl k v else 0).sum
/-- .. to those of the first layers, and of the first lines of the next. -/
def totE (wl : List UInt8) (k i : Nat) : Nat := ((List.range k).map fun j => sE wl j (lay nxL wl j)).sum + sE wl k ((lay nxL wl k).take i)
theorem totE_row (wl : List UInt8) (k : Nat) : totE wl (k + 1) 0 = totE wl k (lay nxL wl k).length := by
  unfold totE
  rw [List.take_length, List.range_succ, List.map_append, List.sum_append]
  simp [sE]
theorem totE_hit (wl : List UInt8) (k i : Nat) (h : i < (lay nxL wl k).length) (he : endP (lay nxL wl k)[i] 0 = true) : totE wl k (i + 1) = totE wl k i + pc nxL wl k (lay nxL wl k)[i] := by
  unfold totE sE
  rw [List.take_succ_eq_append_getElem h, List.map_append, List.sum_append]
  simp [he, Nat.add_assoc]
theorem totE_miss (wl : List UInt8) (k i : Nat) (h : i < (lay nxL wl k).length) (he : endP (lay nxL wl k)[i] 0 = false) : totE wl k (i + 1) = totE wl k i := by
  unfold totE sE
  rw [List.take_succ_eq_append_getElem h, List.map_append, List.sum_append]
  simp [he]
/-- The plays to a line, whichever layer has it. -/
def pcl (wl : List UInt8) (d : Nat) (v : List UInt8) : Nat := ((List.range d).map fun j => pc nxL wl j v).sum
theorem sum_one (f : Nat → Nat) (j : Nat) : ∀ d, j < d → (∀ i, i < d → i ≠ j → f i = 0) → ((List.range d).map f).sum = f j
  | 0, h, _ => by omega
  | d + 1, h, h0 => by
    rw [List.range_succ, List.map_append, List.sum_append]
    by_cases e : j = d
    · subst e
      have : ((List.range j).map f).sum = 0 := by
        have : (List.range j).map f = (List.range j).map fun _ => 0 := List.map_congr_left fun i hi => h0 i (by have := List.mem_range.1 hi; omega) (by have := List.mem_range.1 hi; omega)
        rw [this]
        clear this h0 h
        induction j with
        | zero => rfl
        | succ j ih => rw [List.range_succ, List.map_append, List.sum_append, ih]; simp
      rw [this]; simp
    · rw [sum_one f j d (by omega) fun i hi hne => h0 i (by omega) hne]
      have := h0 d (by omega) (fun e2 => e e2.symm)
      simp [this]
theorem pcl_at {n : Nat} {wl : List UInt8} (hg : goodT n wl) {d j : Nat} {v : List UInt8} (hj : j < d) (hv : v ∈ lay nxL wl j) : pcl wl d v = pc nxL wl j v :=
  sum_one _ j d hj fun i _ hne => pc_none i v fun h => hne (lay_apart (steps_line n) hg h hv)
/-- All dead ends. -/
def endsL (wl : List UInt8) (d : Nat) : List (List UInt8) := (List.range d).flatMap fun j => (lay nxL wl j).filter fun v => endP v 0
theorem mem_endsL (wl : List UInt8) (d : Nat) (v : List UInt8) : v ∈ endsL wl d ↔ ∃ j, j < d ∧ v ∈ lay nxL wl j ∧ endP v 0 = true := by
  unfold endsL
  simp [List.mem_flatMap]
theorem endsL_nodup {n : Nat} {wl : List UInt8} (hg : goodT n wl) : ∀ d, (endsL wl d).Nodup
  | 0 => by simp [endsL]
  | d + 1 => by
    unfold endsL
    rw [List.range_succ, List.flatMap_append]
    refine List.nodup_append.2 ⟨endsL_nodup hg d, ?_, fun a ha b hb e => ?_⟩
    · simp
      exact (rising_nodup (lay_rising d)).filter _
    · subst e
      obtain ⟨j, hj, h1, _⟩ := (mem_endsL wl d a).1 ha
      simp at hb
      have := lay_apart (steps_line n) hg h1 hb.1
      omega
theorem ends_sum {n : Nat} {wl : List UInt8} (hg : goodT n wl) (d : Nat) : ∀ m, m ≤ d → ((endsL wl m).map (pcl wl d)).sum = totE wl m 0
  | 0, _ => by simp [endsL, totE, sE]
  | m + 1, hm => by
    have ih := ends_sum hg d m (by omega)
    have e1 : endsL wl (m + 1) = endsL wl m ++ (lay nxL wl m).filter fun v => endP v 0 := by
      unfold endsL
      rw [List.range_succ, List.flatMap_append]
      simp
    rw [e1, List.map_append, List.sum_append, ih, totE_row]
    have e2 : totE wl m 0 + sE wl m (lay nxL wl m) = totE wl m (lay nxL wl m).length := by
      unfold totE
      rw [List.take_length]
      simp [sE]
    rw [← e2]
    congr 1
    have : ∀ l : List (List UInt8), (∀ v, v ∈ l → v ∈ lay nxL wl m) → ((l.filter fun v => endP v 0).map (pcl wl d)).sum = sE wl m l := by
      intro l
      induction l with
      | nil => intro _; rfl
      | cons a l ih =>
        intro h
        have ih := ih fun v hv => h v (by simp [hv])
        unfold sE at ih ⊢
        rw [List.filter_cons]
        cases he : endP a 0
        · simp [he, ih]
        · simp [he, ih, pcl_at hg (show m < d by omega) (h a (by simp))]
    exact this _ fun _ h => h
theorem sum_perm {f : List UInt8 → Nat} {l m : List (List UInt8)} (h : l.Perm m) : (l.map f).sum = (m.map f).sum := by
  induction h with
  | nil => rfl
  | cons x _ ih => simp [ih]
  | swap x y l => simp; omega
  | trans _ _ h1 h2 => exact h1.trans h2

end Go.Proofs.Ytoefeooldcbfiaa
