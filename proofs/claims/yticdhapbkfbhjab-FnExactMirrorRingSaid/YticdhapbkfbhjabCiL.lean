/- The walks of the laws on rings as texts. -/
import Derived.Test.YticdhapbkfbhjabCiC
namespace Go.Proofs.Yticdhapbkfbhjab
open Go.RowKit

theorem strOr_open (c : Bool) (l : List UInt8) : ∃ x y, strOr c l = .tuple #[.string x, .bool y] := by
  unfold strOr
  split
  · exact ⟨_, _, rfl⟩
  · exact ⟨_, _, rfl⟩
theorem intOr_open (c : Bool) (n : Int) : ∃ x y, intOr c n = .tuple #[.int .i64 x, .bool y] := by
  unfold intOr
  split
  · exact ⟨_, _, rfl⟩
  · exact ⟨_, _, rfl⟩
/-- A contract that leaves the world alone, in the longer form. -/
theorem calls_still {f : FuncId} {args : Array Value} {w : World} {v : Value} (h : Calls Try.prog f args w fun e w' => e = .returned v ∧ w = w') : Calls Try.prog f args w fun e w' => e = .returned v ∧ Below w.heap.size w w' :=
  h.mono fun _ _ ⟨h1, h2⟩ => ⟨h1, h2 ▸ Below.refl _ _⟩

set_option maxRecDepth 100000 in
set_option maxHeartbeats 2000000 in
theorem walk_FnExactMirrorRing (s : ByteArray) (hs : s.size ≤ maxLen) (w : World) :
    Calls Try.prog 3 #[.string s] w fun e w' => e = .returned (.bool true) ∧ Below w.heap.size w w' := by
  by_cases hbig0 : (1048576 : Int) < (s.size : Int)
  · go_enter Try.func3, Try.ntmps3
    go_wp2
    go_ret
    exact ⟨rfl, Below.refl _ _⟩
  · skip
    have HS := Lib.hid (fun wx => calls_still (sMirror_any s wx hs))
    have HM := Lib.hid (fun wx => mirror_any s wx hs)
    obtain ⟨x, y, hxy⟩ := strOr_open (ringB s) (otherL (byt s))
    rw [hxy] at HS HM
    clear hxy
    go_enter Try.func3, Try.ntmps3
    go_wp2_with fail
    refine (HS.out _).mono ?_
    rintro e w1 ⟨rfl, hb1⟩
    go_wp2_with fail
    refine (HM.out _).mono ?_
    rintro e w2 ⟨rfl, hb2⟩
    go_wp2
    go_ret
    exact ⟨rfl, hb1.trans (hb2.mono hb1.size)⟩

end Go.Proofs.Yticdhapbkfbhjab
