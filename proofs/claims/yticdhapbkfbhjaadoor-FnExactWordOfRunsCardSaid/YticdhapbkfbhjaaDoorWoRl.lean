/- The walk of WordOfRuns' law. -/
import Derived.Test.YticdhapbkfbhjaaDoorWoR
namespace Go.Proofs.YticdhapbkfbhjaaDoor
open Go.RowKit

set_option maxRecDepth 100000 in
set_option maxHeartbeats 4000000 in
theorem walk_FnExactWordOfRuns (A : Option Addr) (n c : Nat) (l : List Int) (b : Bool) (w : World) (hin : n = l.length ∧ n ≤ maxLen ∧ InAt w A l ∧ ∀ z ∈ l, (Lit.int .i64 z).wf = true) :
    Calls Tryd.prog 3 #[.slice A n c, .bool b] w fun e w' => e = .returned (.bool true) ∧ Below w.heap.size w w' := by
  obtain ⟨rfl, hmax, hin, hwf⟩ := hin
  have HI := Lib.hid hin
  have HWF := Lib.hid hwf
  clear hin hwf
  by_cases hbig : (1048576 : Int) < (l.length : Int)
  · go_enter Tryd.func3, Tryd.ntmps3
    go_wp2
    go_ret
    exact ⟨rfl, Below.refl _ _⟩
  · have hln : l.length ≤ 2000000 := by omega
    obtain ⟨r1, r2, hR⟩ : ∃ (r1 : ByteArray) (r2 : Bool), strOr (okR l) (runsW l b) = .tuple #[.string r1, .bool r2] := by
      unfold strOr
      split
      · exact ⟨_, _, rfl⟩
      · exact ⟨_, _, rfl⟩
    have hR := Lib.hid hR
    go_enter Tryd.func3, Tryd.ntmps3
    go_wp2_with fail
    refine (toIntS_any l A c _ HI.out hln).mono ?_
    rintro e w1 ⟨rfl, ho1, hb1⟩
    obtain ⟨A1, c1, hv1, _, _, at1⟩ := in_own ho1
    injection hv1 with hA1 _ hc1
    subst hA1; subst hc1
    have AT1 := Lib.hid at1
    clear ho1 at1
    go_wp2_with fail
    refine (sWordOfRuns_any l b _ _ _ hln AT1.out).mono ?_
    rintro e w2 ⟨rfl, rfl⟩
    rw [hR.out]
    have H2 := Lib.hid (HI.out.below hb1)
    have HB1 := Lib.hid hb1
    clear hb1 AT1 HI
    go_wp2_with fail
    refine (toIntS_any l A c _ H2.out hln).mono ?_
    rintro e w3 ⟨rfl, ho3, hb3⟩
    obtain ⟨A3, c3, hv3, _, _, at3⟩ := in_own ho3
    injection hv3 with hA3 _ hc3
    subst hA3; subst hc3
    have AT3 := Lib.hid at3
    have HB3 := Lib.hid (HB1.out.trans (hb3.mono HB1.out.size))
    have H3 := Lib.hid (H2.out.below hb3)
    clear ho3 at3 hb3 HB1 H2
    go_wp2_with fail
    refine (wordOfRuns_any l b _ _ _ hln AT3.out HWF.out).mono ?_
    rintro e w4 ⟨rfl, hb4⟩
    rw [hR.out]
    have AT4 := Lib.hid (AT3.out.below hb4)
    have H4 := Lib.hid (H3.out.below hb4)
    have HB4 := Lib.hid (HB3.out.trans (hb4.mono HB3.out.size))
    clear hb4 AT3 H3 HB3
    go_wp2_with fail
    refine (toIntS_any l A c _ H4.out hln).mono ?_
    rintro e w5 ⟨rfl, ho5, hb5⟩
    obtain ⟨A5, c5, hv5, _, _, at5⟩ := in_own ho5
    injection hv5 with hA5 _ hc5
    subst hA5; subst hc5
    have AT5 := Lib.hid at5
    have AT4' := Lib.hid (AT4.out.below hb5)
    have HB5 := Lib.hid (HB4.out.trans (hb5.mono HB4.out.size))
    clear ho5 at5 hb5 HB4 AT4 H4
    go_wp2_with fail
    refine (eqIntS_same l _ _ _ _ _ AT4'.out AT5.out hln).mono ?_
    rintro e w6 ⟨rfl, hb6⟩
    have HB6 := Lib.hid (HB5.out.trans (hb6.mono HB5.out.size))
    clear hb6 HB5 AT4' AT5
    go_wp2
    go_ret
    exact ⟨rfl, HB6.out⟩
end Go.Proofs.YticdhapbkfbhjaaDoor
