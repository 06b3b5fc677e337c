/- The walk of the law on ranks. -/
import Derived.Test.YtfjeabepggldiaaRankI
namespace Go.Proofs.Ytfjeabepggldiaa
open Go.RowKit

set_option maxHeartbeats 400000 in
theorem walk_FnExactRankOfLine (s : ByteArray) (hs : s.size ≤ maxLen) (w : World) :
    Calls Try.prog 19 #[.string s] w fun e w' => e = .returned (.bool true) ∧ Below w.heap.size w w' := by
  by_cases hbig : (1048576 : Int) < (s.size : Int)
  · go_enter Try.func19, Try.ntmps19
    go_wp2
    go_ret
    exact ⟨rfl, Below.refl _ _⟩
  · cases hc : goodL s
    all_goals
      first
        | have hR := Lib.hid (intOr_no (goodL s) (rkAt s s.size) hc)
        | have hR := Lib.hid (intOr_yes (goodL s) (rkAt s s.size) hc)
      clear hc
      go_enter Try.func19, Try.ntmps19
      go_wp2_with fail
      refine (sRank_any _ _ hs).mono ?_
      rintro e w1 ⟨rfl, rfl⟩
      rw [hR.out]
      go_wp2_with fail
      refine (rank_any _ _ hs).mono ?_
      rintro e w2 ⟨rfl, hb2⟩
      rw [hR.out]
      go_wp2
      go_ret
      exact ⟨rfl, hb2⟩
end Go.Proofs.Ytfjeabepggldiaa
