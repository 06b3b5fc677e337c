/- Numbers of signs that a search by rules takes. -/
import Derived.Test.YtdcbjbmnkajjcaaPlain
import Derived.Test.YtdcbjbmnkajjcaaImp
namespace Go.Proofs.Ytdcbjbmnkajjcaa
open Go.RowKit

/-- Numbers of signs that a search by rules takes. -/
def thrR (t g f : Int) : Bool := three t g f && decide (t + g + f ≤ 8)
set_option maxHeartbeats 1000000 in
theorem ruThree_any (t g f : Int) (w : World) :
    Calls Try.prog 27 #[.int .i64 t, .int .i64 g, .int .i64 f] w fun e w' => e = .returned (.bool (thrR t g f)) ∧ Below w.heap.size w w' := by
  cases hc : three t g f
  · have hV : Hid (thrR t g f = false) := Lib.hid (by unfold thrR; rw [hc]; rfl)
    have hC := Lib.hid hc
    clear hc
    go_enter Try.func27, Try.ntmps27
    go_wp2_with fail
    refine (liThree_any _ _ _ _).mono ?_; rintro e w1 ⟨rfl, hb1⟩; rw [hC.out]
    go_wp2
    go_ret
    exact ⟨by rw [hV.out]; rfl, hb1⟩
  · have hV : Hid (thrR t g f = decide (t + g + f ≤ 8)) := Lib.hid (by unfold thrR; rw [hc, Bool.true_and])
    obtain ⟨⟨a1, a2⟩, ⟨b1, b2⟩, ⟨c1, c2⟩, d1, d2⟩ := (three_iff t g f).1 hc
    have e1 : 0 ≤ t + g := by omega
    have e2 : t + g ≤ 24 := by omega
    have hC := Lib.hid hc
    clear hc
    go_enter Try.func27, Try.ntmps27
    go_wp2_with fail
    refine (liThree_any _ _ _ _).mono ?_; rintro e w1 ⟨rfl, hb1⟩; rw [hC.out]
    go_wp2
    go_ret
    exact ⟨by rw [hV.out]; rfl, hb1⟩
set_option maxHeartbeats 1000000 in
theorem areRuleCounts_any (t g f : Int) (w : World) :
    Calls Try.prog 32 #[.int .i64 t, .int .i64 g, .int .i64 f] w fun e w' => e = .returned (.bool (thrR t g f)) ∧ w = w' := by
  cases hc : three t g f
  · have hV : Hid (thrR t g f = false) := Lib.hid (by unfold thrR; rw [hc]; rfl)
    have hC := Lib.hid hc
    clear hc
    go_enter Try.func32, Try.ntmps32
    go_wp2_with fail
    refine (areCounts_any _ _ _ _).mono ?_; rintro e w' ⟨rfl, rfl⟩; rw [hC.out]
    go_wp2
    go_ret
    exact ⟨by rw [hV.out]; rfl, rfl⟩
  · have hV : Hid (thrR t g f = decide (t + g + f ≤ 8)) := Lib.hid (by unfold thrR; rw [hc, Bool.true_and])
    obtain ⟨⟨a1, a2⟩, ⟨b1, b2⟩, ⟨c1, c2⟩, d1, d2⟩ := (three_iff t g f).1 hc
    have e1 : 0 ≤ t + g := by omega
    have e2 : t + g ≤ 24 := by omega
    have hC := Lib.hid hc
    clear hc
    go_enter Try.func32, Try.ntmps32
    go_wp2_with fail
    refine (areCounts_any _ _ _ _).mono ?_; rintro e w' ⟨rfl, rfl⟩; rw [hC.out]
    go_wp2
    go_ret
    exact ⟨by rw [hV.out]; rfl, rfl⟩
theorem thrR_iff (t g f : Int) : thrR t g f = true ↔ (0 ≤ t ∧ 0 ≤ g ∧ 0 ≤ f ∧ 1 ≤ t + g + f ∧ t + g + f ≤ 8) := by
  unfold thrR
  rw [Bool.and_eq_true, decide_eq_true_eq, three_iff]
  omega
end Go.Proofs.Ytdcbjbmnkajjcaa
