/- IsBoard, SizeOfBoard: both sides' contracts. -/
import Derived.Test.YtjadnfnpbacfdaaDoorBdO
namespace Go.Proofs.YtjadnfnpbacfdaaDoor
open Go.RowKit

def boolB (b : Bool) : Value := .bool b
/-- A board's width and height. -/
theorem good_size {l : List UInt8} (h : goodB l = true) : 1 ≤ ((spl l).headD []).length ∧ ((spl l).headD []).length ≤ 5 ∧ 1 ≤ (spl l).length ∧ (spl l).length ≤ 5 ∧ (spl l).flatten.length = (spl l).length * ((spl l).headD []).length := by
  obtain ⟨h1, h2⟩ := (boOk_iff _).1 h
  have hp := spl_pos l
  have hm : (spl l).headD [] ∈ spl l := by rw [spl_head]; exact List.getElem_mem hp
  obtain ⟨a, b, _⟩ := h2 _ hm
  refine ⟨(good_len5 a).1, b, hp, h1, ?_⟩
  exact flat_eq _ _ fun r hr => (h2 r hr).2.2
def sizeOr (c : Bool) (a b : Int) : Value := if c then .tuple #[.int .i64 a, .int .i64 b, .bool true] else .tuple #[.int .i64 0, .int .i64 0, .bool false]

/-- The program's board of a text that is one, and of one that is none. -/
def BoY (wd : Nat) (F : List UInt8) (w : World) (e : Ending) (w' : World) : Prop :=
  ∃ g cap, e = .returned (.tuple #[.agg #[.int .i64 wd, .slice (some ⟨g, 0, none⟩) F.length cap], .bool true]) ∧ w.heap.size ≤ g ∧ g < w'.heap.size ∧ F.length ≤ cap ∧ BsAt w' g F ∧ Below w.heap.size w w'
def BoN (w : World) (e : Ending) (w' : World) : Prop := e = .returned (.tuple #[.agg #[.int .i64 0, .slice none 0 0], .bool false]) ∧ Below w.heap.size w w'
end Go.Proofs.YtjadnfnpbacfdaaDoor
