/- The walk of WordOfMoves' law. -/
import Derived.Test.YticdhapbkfbhjaaWoB
import Derived.Test.YticdhapbkfbhjaaMarks
namespace Go.Proofs.Yticdhapbkfbhjaa
open Go.RowKit

set_option maxRecDepth 100000 in
set_option maxHeartbeats 4000000 in
theorem walk_FnExactWordOfMoves (s : ByteArray) (hs : s.size ≤ maxLen) (A : Option Addr) (n c : Nat) (l : List (Int × Int)) (w : World) (hin : n = l.length ∧ n ≤ maxLen ∧ MvIn w A l) :
    Calls Try.prog 12 #[.string s, .slice A n c] w fun e w' => e = .returned (.bool true) ∧ Below w.heap.size w w' := by
  obtain ⟨rfl, hmax, hin⟩ := hin
  by_cases hbig : (1048576 : Int) < (s.size : Int)
  · clear hin
    go_enter Try.func12, Try.ntmps12
    go_wp2
    go_ret
    exact ⟨rfl, Below.refl _ _⟩
  · have HI := Lib.hid hin
    clear hin
    by_cases hl : 1048576 < l.length
    · go_enter Try.func12, Try.ntmps12
      go_wp2_with fail
      refine (szMoveS_any _ _ _ _ hmax).mono ?_
      rintro e w1 ⟨rfl, rfl⟩
      rw [if_pos hl]
      go_wp2
      go_ret
      exact ⟨rfl, Below.refl _ _⟩
    · have hln : l.length ≤ 2000000 := by omega
      have hnn : ¬ (1048576 : Int) - (l.length : Int) < 0 := by omega
      obtain ⟨r0, r1, hR⟩ : ∃ (r0 : Value) (r1 : Bool), womV s l = .tuple #[r0, .bool r1] ∧ ∃ z : ByteArray, r0 = .string z := by
        unfold womV strOr
        split
        · exact ⟨_, _, rfl, _, rfl⟩
        · exact ⟨_, _, rfl, _, rfl⟩
      obtain ⟨hR, r2, rfl⟩ := hR
      have hR := Lib.hid hR
      go_enter Try.func12, Try.ntmps12
      go_wp2_with fail
      refine (szMoveS_any _ _ _ _ hmax).mono ?_
      rintro e w1 ⟨rfl, rfl⟩
      rw [if_neg hl]
      go_wp2_with fail
      refine (toMoveS_any l A c _ HI.out hln).mono ?_
      rintro e w1 ⟨rfl, ho1, hb1⟩
      obtain ⟨A1, c1, hv1, at1⟩ := at_of_own ho1
      injection hv1 with hA1 _ hc1
      subst hA1; subst hc1
      have AT1 := Lib.hid at1
      clear ho1 at1
      go_wp2_with fail
      refine (sWordOfMoves_any s l _ _ _ hs hln AT1.out.into).mono ?_
      rintro e w2 ⟨rfl, hb2⟩
      rw [hR.out]
      have hB2 := hb1.trans (hb2.mono hb1.size)
      have H2 := Lib.hid (HI.out.below hB2)
      clear hb1 hb2 AT1 HI
      go_wp2_with fail
      refine (toMoveS_any l A c _ H2.out hln).mono ?_
      rintro e w3 ⟨rfl, ho3, hb3⟩
      obtain ⟨A3, c3, hv3, at3⟩ := at_of_own ho3
      injection hv3 with hA3 _ hc3
      subst hA3; subst hc3
      have AT3 := Lib.hid at3
      have hB3 := hB2.trans (hb3.mono hB2.size)
      have H3 := Lib.hid (H2.out.below hb3)
      clear ho3 at3 hb3 hB2 H2
      go_wp2_with fail
      refine (wordOfMoves_any s l _ _ _ hs hln AT3.out.into).mono ?_
      rintro e w4 ⟨rfl, hb4⟩
      rw [hR.out]
      have AT4 := Lib.hid (AT3.out.below hb4)
      have H4 := Lib.hid (H3.out.below hb4)
      have hB4 := hB3.trans (hb4.mono hB3.size)
      clear hb4 AT3 H3 hB3
      go_wp2_with fail
      refine (toMoveS_any l A c _ H4.out hln).mono ?_
      rintro e w5 ⟨rfl, ho5, hb5⟩
      obtain ⟨A5, c5, hv5, at5⟩ := at_of_own ho5
      injection hv5 with hA5 _ hc5
      subst hA5; subst hc5
      have AT5 := Lib.hid at5
      have AT4' := Lib.hid (AT4.out.below hb5)
      have hB5 := hB4.trans (hb5.mono hB4.size)
      clear ho5 at5 hb5 hB4 AT4 H4
      go_wp2_with fail
      refine (eqMoveS_same l _ _ _ _ _ AT4'.out AT5.out hln).mono ?_
      rintro e w6 ⟨rfl, hb6⟩
      have hB6 := hB5.trans (hb6.mono hB5.size)
      clear hb6 hB5 AT4' AT5
      go_wp2
      go_ret
      exact ⟨rfl, hB6⟩

end Go.Proofs.Yticdhapbkfbhjaa
