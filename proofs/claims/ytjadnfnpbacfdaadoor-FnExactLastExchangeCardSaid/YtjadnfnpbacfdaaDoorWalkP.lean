/- The walks of the laws on plays. -/
import Derived.Test.YtjadnfnpbacfdaaDoorPlayB
import Derived.Test.YtjadnfnpbacfdaaDoorMovesS
namespace Go.Proofs.YtjadnfnpbacfdaaDoor
open Go.RowKit

def askedB (s : ByteArray) (n : Nat) : Bool := goodL s && decide (n ≤ 100)
theorem asked_no {s : ByteArray} {n : Nat} (h : goodL s = false) : askedB s n = false := by simp [askedB, h]

set_option maxHeartbeats 400000 in
theorem canPlayOn_any (s : ByteArray) (A : Option Addr) (n c : Nat) (w : World) (hs : s.size ≤ maxLen) (hn : n ≤ 2000000) :
    Calls Tryd.prog 97 #[.string s, .slice A n c] w fun e w' => e = .returned (.bool (askedB s n)) ∧ w = w' := by
  cases hc : goodL s
  · have hR := Lib.hid (asked_no (n := n) hc)
    have hC := Lib.hid hc
    clear hc
    go_enter Tryd.func97, Tryd.ntmps97
    go_wp2_with (go_at_call 106; refine (isLine_any _ _ hs).mono ?_; rintro e w' ⟨rfl, rfl⟩; rw [hC.out])
    go_ret
    exact ⟨congrArg (fun b => Ending.returned (.bool b)) hR.out.symm, rfl⟩
  · have hR : Hid (askedB s n = decide ((n : Int) ≤ 100)) := by show _ = _; simp [askedB, hc]; omega
    have hC := Lib.hid hc
    clear hc
    go_enter Tryd.func97, Tryd.ntmps97
    go_wp2_with (go_at_call 106; refine (isLine_any _ _ hs).mono ?_; rintro e w' ⟨rfl, rfl⟩; rw [hC.out])
    go_ret
    exact ⟨congrArg (fun b => Ending.returned (.bool b)) hR.out.symm, rfl⟩

/-- All moves can be made. -/
def allB (s : ByteArray) (l : List (Int × Int)) : Bool := (playS s l).2 == l.length
def plVal (s : ByteArray) (l : List (Int × Int)) : Value := if askedB s l.length && allB s l then .tuple #[.string (playS s l).1, .bool true] else .tuple #[.string (str []), .bool false]
def mfVal (s : ByteArray) (l : List (Int × Int)) : Value := if askedB s l.length && !allB s l then .tuple #[.int .i64 (playS s l).2, .bool true] else .tuple #[.int .i64 0, .bool false]
theorem asked_in {s : ByteArray} {n : Nat} (h : askedB s n = true) : s.size ≤ 1000 ∧ n ≤ 100 := by
  unfold askedB at h
  rw [Bool.and_eq_true] at h
  exact ⟨good1000 h.1, by simpa using h.2⟩

end Go.Proofs.YtjadnfnpbacfdaaDoor
