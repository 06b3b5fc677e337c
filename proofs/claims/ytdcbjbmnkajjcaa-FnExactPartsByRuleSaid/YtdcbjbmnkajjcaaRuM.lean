/- What is reached by a rule: counted, and the steps to one line; both sides. -/
import Derived.Test.YtdcbjbmnkajjcaaRuK
import Derived.Test.YtdcbjbmnkajjcaaRuL
namespace Go.Proofs.Ytdcbjbmnkajjcaa
open Go.RowKit Go.Maps

theorem bfsAt_ne (nx : List UInt8 → List (List UInt8)) (wl : List UInt8) (k : Nat) : bfsAt nx wl k ≠ [] := by
  induction k with
  | zero => simp [bfsAt]
  | succ k ih =>
    obtain ⟨M, e⟩ := bfsAt_pre (nx := nx) (wl := wl) k
    rw [e]
    simp [ih]
theorem bfsL_ne (nx : List UInt8 → List (List UInt8)) (wl : List UInt8) : bfsL nx wl ≠ [] := bfsAt_ne nx wl 60000
/-- With how many steps a line is found. -/
def stF (L : Fnd) (v : List UInt8) : Option Nat := (L.find? fun p => p.1 == v).map (·.2)
theorem stF_some {L : Fnd} {v : List UInt8} {d : Nat} (hn : (keysF L).Nodup) (h : (v, d) ∈ L) : stF L v = some d := by
  induction L with
  | nil => simp at h
  | cons p L ih =>
    obtain ⟨h1, h2⟩ := List.nodup_cons.1 (show (p.1 :: keysF L).Nodup from hn)
    unfold stF
    rw [List.find?_cons]
    rcases List.mem_cons.1 h with h | h
    · rw [← h]; simp
    · have hne : (p.1 == v) = false := by
        rw [beq_eq_false_iff_ne]
        intro e
        exact h1 (by rw [e]; exact List.mem_map_of_mem (f := fun p => p.1) h)
      rw [hne]
      exact ih h2 h
theorem stF_none {L : Fnd} {v : List UInt8} (h : v ∉ keysF L) : stF L v = none := by
  unfold stF
  have : L.find? (fun p => p.1 == v) = none := by
    rw [List.find?_eq_none]
    intro p hp e
    exact h (by rw [← eq_of_beq e]; exact List.mem_map_of_mem (f := fun p => p.1) hp)
  rw [this]
  rfl
theorem stF_cases (L : Fnd) (hn : (keysF L).Nodup) (v : List UInt8) : (∃ d, (v, d) ∈ L ∧ v ∈ keysF L ∧ stF L v = some d) ∨ (v ∉ keysF L ∧ stF L v = none) := by
  by_cases h : v ∈ keysF L
  · obtain ⟨p, hp, rfl⟩ := List.mem_map.1 h
    exact .inl ⟨p.2, hp, h, stF_some hn hp⟩
  · exact .inr ⟨h, stF_none h⟩
theorem fndV_size {W : World} {b n : Nat} {D : DataW Unit} {L : Fnd} (h : W.ownsMap Try.prog 9 intR b n D) (hf : FndV D L) (hn : (keysF L).Nodup) : Maps.size D = L.length := by
  obtain ⟨h1, h2, h3⟩ := keys_nodup h Try.keysS Try.underlying9
  rw [← h3, ← keysF_len]
  refine List.Perm.length_eq ((List.perm_ext_iff_of_nodup h1 hn).2 fun v => (h2 v).trans ⟨hf.2 v, fun hv => ?_⟩)
  obtain ⟨p, hp, rfl⟩ := List.mem_map.1 hv
  exact (hf.1 p hp).1

/-- The answer of a count. -/
def crV (s : ByteArray) (o b l : Bool) : Value := if rchB s then .tuple #[.int .i64 ((bfsL (nxR o b l) (byt s)).length : Int), .bool true] else .tuple #[.int .i64 0, .bool false]
theorem crV_open (s : ByteArray) (o b l : Bool) : ∃ x y, crV s o b l = .tuple #[.int .i64 x, .bool y] := by
  unfold crV
  split
  · exact ⟨_, _, rfl⟩
  · exact ⟨_, _, rfl⟩

/-- What is told of the steps. -/
def dbV : Option Nat → Value
  | some d => .tuple #[.int .i64 (d : Int), .bool true]
  | none => .tuple #[.int .i64 0, .bool false]
def stI : Option Nat → Int
  | some d => d
  | none => -1
end Go.Proofs.Ytdcbjbmnkajjcaa
