/- The laws' walks: boards and their size. -/
import Derived.Test.YtmlffocbcfediaaDoorBdP
namespace Go.Proofs.YtmlffocbcfediaaDoor
open Go.RowKit
set_option maxRecDepth 100000 in
set_option maxHeartbeats 2000000 in
theorem walk_FnExactIsBoard (s : ByteArray) (hs : s.size ≤ maxLen) (w : World) :
    Calls Tryd.prog 3 #[.string s] w fun e w' => e = .returned (.bool true) ∧ Below w.heap.size w w' := by
  by_cases hbig0 : (1048576 : Int) < (s.size : Int)
  · go_enter Tryd.func3, Tryd.ntmps3
    go_wp2
    go_ret
    exact ⟨rfl, Below.refl _ _⟩
  · skip
    have HS := Lib.hid (fun wx => sIsBoard_any s wx hs)
    have HM := Lib.hid (fun wx => isBoard_any s wx (by omega))
    obtain ⟨x, hxy⟩ : ∃ x, goodB (byt s) = x := ⟨_, rfl⟩
    rw [hxy] at HS HM
    clear hxy
    go_enter Tryd.func3, Tryd.ntmps3
    go_wp2_with fail
    refine (HS.out _).mono ?_
    rintro e w1 ⟨rfl, hb1⟩
    go_wp2_with fail
    refine (HM.out _).mono ?_
    rintro e w2 ⟨rfl, hb2⟩
    go_wp2
    go_ret
    exact ⟨rfl, hb1.trans (hb2.mono hb1.size)⟩
set_option maxRecDepth 100000 in
set_option maxHeartbeats 2000000 in
theorem walk_FnExactSizeOfBoard (s : ByteArray) (hs : s.size ≤ maxLen) (w : World) :
    Calls Tryd.prog 4 #[.string s] w fun e w' => e = .returned (.bool true) ∧ Below w.heap.size w w' := by
  by_cases hbig0 : (1048576 : Int) < (s.size : Int)
  · go_enter Tryd.func4, Tryd.ntmps4
    go_wp2
    go_ret
    exact ⟨rfl, Below.refl _ _⟩
  · skip
    have HS := Lib.hid (fun wx => sSize_any s wx hs)
    have HM := Lib.hid (fun wx => size_any s wx (by omega))
    obtain ⟨x, y, z, hxy⟩ : ∃ x y z, sizeOr (goodB (byt s)) ((spl (byt s)).headD []).length (spl (byt s)).length = .tuple #[.int .i64 x, .int .i64 y, .bool z] := by cases goodB (byt s) <;> exact ⟨_, _, _, rfl⟩
    rw [hxy] at HS HM
    clear hxy
    go_enter Tryd.func4, Tryd.ntmps4
    go_wp2_with fail
    refine (HS.out _).mono ?_
    rintro e w1 ⟨rfl, hb1⟩
    go_wp2_with fail
    refine (HM.out _).mono ?_
    rintro e w2 ⟨rfl, hb2⟩
    go_wp2
    go_ret
    exact ⟨rfl, hb1.trans (hb2.mono hb1.size)⟩
end Go.Proofs.YtmlffocbcfediaaDoor
