/- The walk of the law on how many rings there are. -/
import Derived.Test.YtfjjdelmfohaeaaCiR
import Derived.Test.YtfjjdelmfohaeaaCiL
namespace Go.Proofs.Ytfjjdelmfohaeaa
open Go.RowKit

set_option maxRecDepth 100000 in
set_option maxHeartbeats 2000000 in
theorem walk_FnExactCountRings (t : Int) (_ : (Lit.int .i64 t).wf = true) (g : Int) (_ : (Lit.int .i64 g).wf = true) (f : Int) (_ : (Lit.int .i64 f).wf = true) (w : World) :
    Calls Try.prog 7 #[.int .i64 t, .int .i64 g, .int .i64 f] w fun e w' => e = .returned (.bool true) ∧ Below w.heap.size w w' := by
  have HS := Lib.hid (fun wx => sCountRings_any t g f wx)
  have HM := Lib.hid (fun wx => countRings_any t g f wx)
  obtain ⟨x, y, hxy⟩ := intOr_open (thrC t g f) (nA t g f)
  rw [hxy] at HS HM
  clear hxy
  go_enter Try.func7, Try.ntmps7
  go_wp2_with fail
  refine (HS.out _).mono ?_
  rintro e w1 ⟨rfl, hb1⟩
  go_wp2_with fail
  refine (HM.out _).mono ?_
  rintro e w2 ⟨rfl, hb2⟩
  go_wp2
  go_ret
  exact ⟨rfl, hb1.trans (hb2.mono hb1.size)⟩
end Go.Proofs.Ytfjjdelmfohaeaa
