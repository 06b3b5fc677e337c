/- The walks of the laws on lines as texts and numbers. -/
import Derived.Test.YticdhapbkfbhjaaSpecA
import Derived.Test.YticdhapbkfbhjaaOtL
namespace Go.Proofs.Yticdhapbkfbhjaa
open Go.RowKit

set_option maxHeartbeats 400000 in
theorem walk_FnExactOtherLine (s : ByteArray) (hs : s.size ≤ maxLen) (w : World) :
    Calls Try.prog 5 #[.string s] w fun e w' => e = .returned (.bool true) ∧ Below w.heap.size w w' := by
  by_cases hbig : (1048576 : Int) < (s.size : Int)
  · go_enter Try.func5, Try.ntmps5
    go_wp2
    go_ret
    exact ⟨rfl, Below.refl _ _⟩
  · cases hc : goodL s
    all_goals
      first
        | have hR := Lib.hid (strOr_no (goodL s) (otherL (byt s)) hc)
        | have hR := Lib.hid (strOr_yes (goodL s) (otherL (byt s)) hc)
      clear hc
      go_enter Try.func5, Try.ntmps5
      go_wp2_with fail
      refine (sOtherLine_any _ _ hs).mono ?_
      rintro e w1 ⟨rfl, rfl⟩
      rw [hR.out]
      go_wp2_with fail
      refine (otherLine_any _ _ hs).mono ?_
      rintro e w2 ⟨rfl, hb2⟩
      rw [hR.out]
      go_wp2
      go_ret
      exact ⟨rfl, hb2⟩

end Go.Proofs.Yticdhapbkfbhjaa
