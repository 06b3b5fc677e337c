/- The laws' walks: first and last boards. -/
import Derived.Test.YtmlffocbcfediaaBdH
namespace Go.Proofs.Ytmlffocbcfediaa
open Go.RowKit
set_option maxRecDepth 100000 in
set_option maxHeartbeats 2000000 in
theorem walk_FnExactFirstBoard (a : Int) (_ : (Lit.int .i64 a).wf = true) (b : Int) (_ : (Lit.int .i64 b).wf = true) (w : World) :
    Calls Try.prog 3 #[.int .i64 a, .int .i64 b] w fun e w' => e = .returned (.bool true) ∧ Below w.heap.size w w' := by
  have HS := Lib.hid (fun wx => sFstBoard_any a b wx)
  have HM := Lib.hid (fun wx => fstBoard_any a b wx)
  obtain ⟨x, y, hxy⟩ : ∃ x y, strOr (halves a b) (fstB a b 84 70) = .tuple #[.string x, .bool y] := by cases halves a b <;> exact ⟨_, _, rfl⟩
  rw [hxy] at HS HM
  clear hxy
  go_enter Try.func3, Try.ntmps3
  go_wp2_with fail
  refine (HS.out _).mono ?_
  rintro e w1 ⟨rfl, hb1⟩
  go_wp2_with fail
  refine (HM.out _).mono ?_
  rintro e w2 ⟨rfl, hb2⟩
  go_wp2
  go_ret
  exact ⟨rfl, hb1.trans (hb2.mono hb1.size)⟩
set_option maxRecDepth 100000 in
set_option maxHeartbeats 2000000 in
theorem walk_FnExactLastBoard (a : Int) (_ : (Lit.int .i64 a).wf = true) (b : Int) (_ : (Lit.int .i64 b).wf = true) (w : World) :
    Calls Try.prog 4 #[.int .i64 a, .int .i64 b] w fun e w' => e = .returned (.bool true) ∧ Below w.heap.size w w' := by
  have HS := Lib.hid (fun wx => sLstBoard_any a b wx)
  have HM := Lib.hid (fun wx => lstBoard_any a b wx)
  obtain ⟨x, y, hxy⟩ : ∃ x y, strOr (halves a b) (fstB a b 70 84) = .tuple #[.string x, .bool y] := by cases halves a b <;> exact ⟨_, _, rfl⟩
  rw [hxy] at HS HM
  clear hxy
  go_enter Try.func4, Try.ntmps4
  go_wp2_with fail
  refine (HS.out _).mono ?_
  rintro e w1 ⟨rfl, hb1⟩
  go_wp2_with fail
  refine (HM.out _).mono ?_
  rintro e w2 ⟨rfl, hb2⟩
  go_wp2
  go_ret
  exact ⟨rfl, hb1.trans (hb2.mono hb1.size)⟩
end Go.Proofs.Ytmlffocbcfediaa
