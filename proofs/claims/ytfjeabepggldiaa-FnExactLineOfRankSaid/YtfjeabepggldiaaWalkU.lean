/- The walk of the law on lines of ranks. -/
import Derived.Test.YtfjeabepggldiaaUnrI
namespace Go.Proofs.Ytfjeabepggldiaa
open Go.RowKit

set_option maxHeartbeats 400000 in
theorem walk_FnExactLineOfRank (t : Int) (_ : (Lit.int .i64 t).wf = true) (g : Int) (_ : (Lit.int .i64 g).wf = true) (f : Int) (_ : (Lit.int .i64 f).wf = true) (r : Int) (_ : (Lit.int .i64 r).wf = true) (w : World) :
    Calls Try.prog 20 #[.int .i64 t, .int .i64 g, .int .i64 f, .int .i64 r] w fun e w' => e = .returned (.bool true) ∧ Below w.heap.size w w' := by
  cases hc : (three t g f && inR r 0 (manyI t g f - 1))
  all_goals
    first
      | have hR := Lib.hid (strOr_no (three t g f && inR r 0 (manyI t g f - 1)) (unr (t + g + f).toNat t g f r) hc)
      | have hR := Lib.hid (strOr_yes (three t g f && inR r 0 (manyI t g f - 1)) (unr (t + g + f).toNat t g f r) hc)
    clear hc
    go_enter Try.func20, Try.ntmps20
    go_wp2_with fail
    refine (sUnr_any _ _ _ _ _).mono ?_
    rintro e w1 ⟨rfl, hb1⟩
    rw [hR.out]
    go_wp2_with fail
    refine (unr_any _ _ _ _ _).mono ?_
    rintro e w2 ⟨rfl, hb2⟩
    rw [hR.out]
    go_wp2
    go_ret
    exact ⟨rfl, hb1.trans (hb2.mono hb1.size)⟩
end Go.Proofs.Ytfjeabepggldiaa
