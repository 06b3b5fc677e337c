/- IsBoard, SizeOfBoard: both sides' contracts. -/
import Derived.Test.YtoiaklnaecghnabGreatDoorBdO
namespace Go.Proofs.YtoiaklnaecghnabGreatDoor
open Go.RowKit

def boolB (b : Bool) : Value := .bool b
/-- A board's width and height. -/
theorem good_size {l : List UInt8} (h : goodB l = true) : 1 ≤ ((spl l).headD []).length ∧ ((spl l).headD []).length ≤ 5 ∧ 1 ≤ (spl l).length ∧ (spl l).length ≤ 5 ∧ (spl l).flatten.length = (spl l).length * ((spl l).headD []).length := by
  obtain ⟨h1, h2⟩ := (boOk_iff _).1 h
  have hp := spl_pos l
  have hm : (spl l).headD [] ∈ spl l := by rw [spl_head]; exact List.getElem_mem hp
  obtain ⟨a, b, _⟩ := h2 _ hm
  refine ⟨(good_len5 a).1, b, hp, h1, ?_⟩
  exact flat_eq _ _ fun r hr => (h2 r hr).2.2
def sizeOr (c : Bool) (a b : Int) : Value := if c then .tuple #[.int .i64 a, .int .i64 b, .bool true] else .tuple #[.int .i64 0, .int .i64 0, .bool false]

set_option maxRecDepth 100000 in
set_option maxHeartbeats 1000000 in
theorem high_any (wd : Nat) (g cap n : Nat) (w : World) (hw : 1 ≤ wd) (hn : n ≤ 1000) (hw5 : wd ≤ 1000) :
    Calls Tryz.prog 43 #[.agg #[.int .i64 wd, .slice (some ⟨g, 0, none⟩) n cap]] w fun e w' => e = .returned (.int .i64 ((n / wd : Nat) : Int)) ∧ Below w.heap.size w w' := by
  have hz : ((wd : Int) == 0) = false := by rw [beq_eq_false_iff_ne]; omega
  have hd : Hid ((n : Int) / (wd : Int) = ((n / wd : Nat) : Int)) := Lib.hid (Int.natCast_ediv n wd).symm
  have hle : n / wd ≤ n := Nat.div_le_self _ _
  go_enter Tryz.func43, Tryz.ntmps43
  go_wp2
  go_ret
  refine ⟨?_, (Below.refl _ _).alloc (Nat.le_refl _) _⟩
  rw [hd.out]
  generalize n / wd = q at hle
  have e : wrap64 (q : Int) = q := by unfold wrap64; omega
  rw [e]
  rfl

/-- The program's board of a text that is one, and of one that is none. -/
def BoY (wd : Nat) (F : List UInt8) (w : World) (e : Ending) (w' : World) : Prop :=
  ∃ g cap, e = .returned (.tuple #[.agg #[.int .i64 wd, .slice (some ⟨g, 0, none⟩) F.length cap], .bool true]) ∧ w.heap.size ≤ g ∧ g < w'.heap.size ∧ F.length ≤ cap ∧ BsAt w' g F ∧ Below w.heap.size w w'
def BoN (w : World) (e : Ending) (w' : World) : Prop := e = .returned (.tuple #[.agg #[.int .i64 0, .slice none 0 0], .bool false]) ∧ Below w.heap.size w w'
theorem boardOf_yes (s : ByteArray) (w : World) (hs : s.size ≤ 2000000) (hg : goodB (byt s) = true) :
    Calls Tryz.prog 28 #[.string s] w (BoY ((spl (byt s)).headD []).length (spl (byt s)).flatten w) := by
  refine (boardOf_any s w hs).mono ?_
  rintro e w1 (⟨_, g, cap, rfl, h⟩ | ⟨h, _⟩)
  · exact ⟨g, cap, rfl, h⟩
  · rw [hg] at h; cases h
theorem boardOf_no (s : ByteArray) (w : World) (hs : s.size ≤ 2000000) (hg : goodB (byt s) = false) :
    Calls Tryz.prog 28 #[.string s] w (BoN w) := by
  refine (boardOf_any s w hs).mono ?_
  rintro e w1 (⟨h, _⟩ | ⟨_, h⟩)
  · rw [hg] at h; cases h
  · exact h

end Go.Proofs.YtoiaklnaecghnabGreatDoor
