/- The walks of IsWord's and OtherWord's laws. -/
import Derived.Test.YticdhapbkfbhjaaDoorWoC
namespace Go.Proofs.YticdhapbkfbhjaaDoor
open Go.RowKit

theorem so_open (c : Bool) (l : List UInt8) : ∃ x y, strOr c l = .tuple #[.string x, .bool y] := by
  unfold strOr
  split
  · exact ⟨_, _, rfl⟩
  · exact ⟨_, _, rfl⟩
/-- A contract that leaves the world alone, in the longer form. -/
theorem still_of {f : FuncId} {args : Array Value} {w : World} {v : Value} (h : Calls Tryd.prog f args w fun e w' => e = .returned v ∧ w = w') : Calls Tryd.prog f args w fun e w' => e = .returned v ∧ Below w.heap.size w w' :=
  h.mono fun _ _ ⟨h1, h2⟩ => ⟨h1, h2 ▸ Below.refl _ _⟩

set_option maxRecDepth 100000 in
set_option maxHeartbeats 2000000 in
theorem walk_FnExactOtherWord (s : ByteArray) (hs : s.size ≤ maxLen) (w : World) :
    Calls Tryd.prog 4 #[.string s] w fun e w' => e = .returned (.bool true) ∧ Below w.heap.size w w' := by
  by_cases hbig0 : (1048576 : Int) < (s.size : Int)
  · go_enter Tryd.func4, Tryd.ntmps4
    go_wp2
    go_ret
    exact ⟨rfl, Below.refl _ _⟩
  · skip
    have HS := Lib.hid (fun wx => still_of (sOtherWord_any s wx hs))
    have HM := Lib.hid (fun wx => otherWord_any s wx hs)
    obtain ⟨x, y, hxy⟩ := so_open (wordB s) (otherW (byt s))
    rw [hxy] at HS HM
    clear hxy
    go_enter Tryd.func4, Tryd.ntmps4
    go_wp2_with fail
    refine (HS.out _).mono ?_
    rintro e w1 ⟨rfl, hb1⟩
    go_wp2_with fail
    refine (HM.out _).mono ?_
    rintro e w2 ⟨rfl, hb2⟩
    go_wp2
    go_ret
    exact ⟨rfl, hb1.trans (hb2.mono hb1.size)⟩
end Go.Proofs.YticdhapbkfbhjaaDoor
