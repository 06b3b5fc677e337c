/- Contracts: a line's live lines; whether a line is live; how many lines are: the program's. -/
import Derived.Test.YtjadnfnpbacfdaaGreatDoorSwZ
import Derived.Test.YtjadnfnpbacfdaaGreatDoorSwRa
import Derived.Maps.OwnSet
namespace Go.Proofs.YtjadnfnpbacfdaaGreatDoor
open Go.RowKit Go.Shelf Go.Maps

/-- The first line of as many of each. -/
def fsL (l : List UInt8) : List UInt8 := firstL (cnt 84 l) (cnt 46 l) (cnt 70 l)
/-- A line of few cells. -/
def lineB (s : ByteArray) : Bool := goodL s && decide (s.size ≤ 8)
theorem few_line {s : ByteArray} (h : goodL s = true) : few (cnt 84 (byt s)) (cnt 46 (byt s)) (cnt 70 (byt s)) = decide (s.size ≤ 8) := by
  obtain ⟨h1, h2, h3⟩ := (goodL_iff _).1 h
  have h4 := cnt_sum (byt s) h3
  have h5 : (byt s).length = s.size := by unfold byt; rfl
  rw [few_of ((three_iff _ _ _).2 (by omega))]
  by_cases h8 : s.size ≤ 8
  · rw [decide_eq_true h8, decide_eq_true (by omega)]
  · rw [decide_eq_false h8, decide_eq_false (by omega)]
theorem line_parts {l : List UInt8} (h : lineB (str l) = true) : goodL (str l) = true ∧ goodT l.length l ∧ l.length ≤ 8 ∧ few (cnt 84 l) (cnt 46 l) (cnt 70 l) = true := by
  unfold lineB at h
  rw [Bool.and_eq_true] at h
  have h2 := of_decide_eq_true h.2
  have h3 := few_line h.1
  rw [byt_str] at h3
  rw [str_size] at h2
  exact ⟨h.1, ⟨h.1, rfl, by omega⟩, h2, by rw [h3, str_size]; exact decide_eq_true h2⟩
theorem fs_first (l : List UInt8) : firstL (cnt 84 l : Int).toNat (cnt 46 l : Int).toNat (cnt 70 l : Int).toNat = fsL l := by simp [fsL]
theorem fs_good {l : List UInt8} (h : lineB (str l) = true) : goodT l.length (fsL l) := by
  obtain ⟨h1, h2, h3, h4⟩ := line_parts h
  have h5 := first_goodT h4
  rw [fs_first] at h5
  have h6 := cnt_sum l (by have := ((goodL_iff _).1 h1).2.2; rwa [byt_str] at this)
  rw [show ((cnt 84 l : Int) + (cnt 46 l : Int) + (cnt 70 l : Int)).toNat = l.length by omega] at h5
  exact h5
def LlYes (f : List UInt8) (w : World) (e : Ending) (w' : World) : Prop :=
  ∃ bm D, e = .returned (.tuple #[.map (some bm), .bool true]) ∧ w.heap.size ≤ bm ∧ w'.ownsMap Tryz.prog 38 iRw bm (swA f).length D ∧ LiveV D (swA f) ∧ Below w.heap.size w w'
/-- Is the line live? -/
def liveB (l : List UInt8) : Bool := decide (0 < lvN (swA (fsL l)) l)
/-- How many are live. -/
def clV (t g f : Int) : Value := intOr (few t g f) ((lvA (firstL t.toNat g.toNat f.toNat)).length : Int)
end Go.Proofs.YtjadnfnpbacfdaaGreatDoor
