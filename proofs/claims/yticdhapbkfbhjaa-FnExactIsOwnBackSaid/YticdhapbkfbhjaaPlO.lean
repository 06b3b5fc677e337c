/- PlayMoves, MoveThatFails: the walks of their laws, the maker handed over. -/
import Derived.Test.YticdhapbkfbhjaaPlN
namespace Go.Proofs.Yticdhapbkfbhjaa
open Go.RowKit

set_option maxHeartbeats 1000000 in
theorem moveFails_fn (N : FuncId) (mk : ByteArray → Int → Int → Option ByteArray) (Inv : ByteArray → Prop) (hmk : MkOk N mk Inv) (s0 : ByteArray) (h0 : Inv s0) (l : List (Int × Int)) (A : Option Addr) (c : Nat) (w : World) (hat : MvIn w A l) (hl : l.length ≤ 1000) :
    Calls Try.prog 46 #[.string s0, .slice A l.length c, .func (.func N) #[] #[]] w fun e w' => e = .returned (if (playG mk s0 l).2 == l.length then .tuple #[.int .i64 0, .bool false] else .tuple #[.int .i64 (playG mk s0 l).2, .bool true]) ∧ Below w.heap.size w w' := by
  have HC := Lib.hid (playOn_fn N mk Inv hmk s0 h0 l A c w hat hl)
  have hle := playG_le mk l s0
  clear hmk h0 hat
  by_cases he : (playG mk s0 l).2 = l.length
  · have hV : Hid ((if (playG mk s0 l).2 == l.length then Value.tuple #[.int .i64 0, .bool false] else .tuple #[.int .i64 (playG mk s0 l).2, .bool true]) = .tuple #[.int .i64 0, .bool false]) := Lib.hid (by rw [if_pos (by simpa using he)])
    rw [hV.out]
    have he2 : Hid ((playG mk s0 l).2 = l.length) := Lib.hid he
    clear he hV hle
    go_enter Try.func46, Try.ntmps46
    go_wp2_with fail
    refine HC.out.mono ?_
    rintro e w1 ⟨rfl, hb1⟩
    rw [he2.out]
    go_wp2_with fail
    go_ret2
    exact ⟨rfl, hb1⟩
  · have hV : Hid ((if (playG mk s0 l).2 == l.length then Value.tuple #[.int .i64 0, .bool false] else .tuple #[.int .i64 (playG mk s0 l).2, .bool true]) = .tuple #[.int .i64 (playG mk s0 l).2, .bool true]) := Lib.hid (by rw [if_neg (by simpa using he)])
    rw [hV.out]
    have hne : (((playG mk s0 l).2 : Int) == (l.length : Int)) = false := by simp; omega
    clear he hV hle
    generalize playG mk s0 l = q at HC hne ⊢
    go_enter Try.func46, Try.ntmps46
    go_wp2_with fail
    refine HC.out.mono ?_
    rintro e w1 ⟨rfl, hb1⟩
    go_wp2_with fail
    go_ret2
    exact ⟨rfl, hb1⟩
set_option maxHeartbeats 1000000 in
theorem moveFailsN_any (s : ByteArray) (l : List (Int × Int)) (A : Option Addr) (c : Nat) (w : World) (hs : s.size ≤ maxLen) (hn : l.length ≤ 2000000) (hat : MvIn w A l) :
    Calls Try.prog 19 #[.string s, .slice A l.length c] w fun e w' => e = .returned (mfVal s l) ∧ Below w.heap.size w w' := by
  have HA := Lib.hid hat
  clear hat
  cases hc : askedB s l.length
  · have hR : Hid (mfVal s l = .tuple #[.int .i64 0, .bool false]) := by show _ = _; simp [mfVal, hc]
    have hC := Lib.hid hc
    clear hc
    go_enter Try.func19, Try.ntmps19
    go_wp2_with (go_at_call 42; refine (canPlayOn_any _ _ _ _ _ hs hn).mono ?_; rintro e w' ⟨rfl, rfl⟩; rw [hC.out])
    go_ret2
    exact ⟨congrArg Ending.returned hR.out.symm, Below.refl _ _⟩
  · obtain ⟨h1, h100⟩ := asked_in hc
    have hR : Hid (mfVal s l = (if (playG mkL s l).2 == l.length then .tuple #[.int .i64 0, .bool false] else .tuple #[.int .i64 (playG mkL s l).2, .bool true])) := Lib.hid (by
      rw [playG_L l s (by simp [askedB] at hc; exact hc.1)]
      unfold mfVal allB
      rw [hc]
      cases ((playS s l).2 == l.length) <;> rfl)
    have hC := Lib.hid hc
    clear hc
    obtain ⟨r0, r1, hR0⟩ : ∃ (r0 : Int) (r1 : Bool), mfVal s l = .tuple #[.int .i64 r0, .bool r1] := by
      unfold mfVal
      split
      · exact ⟨_, _, rfl⟩
      · exact ⟨_, _, rfl⟩
    have HC := Lib.hid (moveFails_fn _ mkL _ mkL_ok s hs l A c w HA.out (by omega))
    rw [← hR.out, hR0] at HC
    rw [hR0]
    clear hR hR0
    go_enter Try.func19, Try.ntmps19
    go_wp2_with fail
    refine (canPlayOn_any _ _ _ _ _ hs hn).mono ?_; rintro e w' ⟨rfl, rfl⟩; rw [hC.out]
    go_wp2_with fail
    refine HC.out.mono ?_
    rintro e w1 ⟨rfl, hb1⟩
    go_wp2_with fail
    go_ret2
    exact ⟨rfl, hb1⟩

set_option maxRecDepth 100000 in
set_option maxHeartbeats 4000000 in
theorem walk_FnExactPlayMoves (s : ByteArray) (hs : s.size ≤ maxLen) (A : Option Addr) (n c : Nat) (l : List (Int × Int)) (w : World) (hin : n = l.length ∧ n ≤ maxLen ∧ MvIn w A l) :
    Calls Try.prog 3 #[.string s, .slice A n c] w fun e w' => e = .returned (.bool true) ∧ Below w.heap.size w w' := by
  obtain ⟨rfl, hmax, hin⟩ := hin
  by_cases hbig : (1048576 : Int) < (s.size : Int)
  · clear hin
    go_enter Try.func3, Try.ntmps3
    go_wp2
    go_ret
    exact ⟨rfl, Below.refl _ _⟩
  · have HI := Lib.hid hin
    clear hin
    by_cases hl : 1048576 < l.length
    · go_enter Try.func3, Try.ntmps3
      go_wp2_with fail
      refine (szMoveS_any _ _ _ _ hmax).mono ?_
      rintro e w1 ⟨rfl, rfl⟩
      rw [if_pos hl]
      go_wp2
      go_ret
      exact ⟨rfl, Below.refl _ _⟩
    · have hln : l.length ≤ 2000000 := by omega
      have hnn : ¬ (1048576 : Int) - (l.length : Int) < 0 := by omega
      obtain ⟨r0, r1, hR⟩ : ∃ (r0 : Value) (r1 : Bool), plVal s l = .tuple #[r0, .bool r1] ∧ ∃ z : ByteArray, r0 = .string z := by
        unfold plVal
        split
        · exact ⟨_, _, rfl, _, rfl⟩
        · exact ⟨_, _, rfl, _, rfl⟩
      obtain ⟨hR, r2, rfl⟩ := hR
      have hR := Lib.hid hR
      go_enter Try.func3, Try.ntmps3
      go_wp2_with fail
      refine (szMoveS_any _ _ _ _ hmax).mono ?_
      rintro e w1 ⟨rfl, rfl⟩
      rw [if_neg hl]
      go_wp2_with fail
      refine (toMoveS_any l A c _ HI.out hln).mono ?_
      rintro e w1 ⟨rfl, ho1, hb1⟩
      obtain ⟨A1, c1, hv1, at1⟩ := at_of_own ho1
      injection hv1 with hA1 _ hc1
      subst hA1; subst hc1
      have AT1 := Lib.hid at1
      clear ho1 at1
      go_wp2_with fail
      refine (sPlayMoves_any s l _ _ _ hs hln AT1.out.into).mono ?_
      rintro e w2 ⟨rfl, hb2⟩
      rw [hR.out]
      have hB2 := hb1.trans (hb2.mono hb1.size)
      have H2 := Lib.hid (HI.out.below hB2)
      clear hb1 hb2 AT1 HI
      go_wp2_with fail
      refine (toMoveS_any l A c _ H2.out hln).mono ?_
      rintro e w3 ⟨rfl, ho3, hb3⟩
      obtain ⟨A3, c3, hv3, at3⟩ := at_of_own ho3
      injection hv3 with hA3 _ hc3
      subst hA3; subst hc3
      have AT3 := Lib.hid at3
      have hB3 := hB2.trans (hb3.mono hB2.size)
      have H3 := Lib.hid (H2.out.below hb3)
      clear ho3 at3 hb3 hB2 H2
      go_wp2_with fail
      refine (playMovesN_any s l _ _ _ hs hln AT3.out.into).mono ?_
      rintro e w4 ⟨rfl, hb4⟩
      rw [hR.out]
      have AT4 := Lib.hid (AT3.out.below hb4)
      have H4 := Lib.hid (H3.out.below hb4)
      have hB4 := hB3.trans (hb4.mono hB3.size)
      clear hb4 AT3 H3 hB3
      go_wp2_with fail
      refine (toMoveS_any l A c _ H4.out hln).mono ?_
      rintro e w5 ⟨rfl, ho5, hb5⟩
      obtain ⟨A5, c5, hv5, at5⟩ := at_of_own ho5
      injection hv5 with hA5 _ hc5
      subst hA5; subst hc5
      have AT5 := Lib.hid at5
      have AT4' := Lib.hid (AT4.out.below hb5)
      have hB5 := hB4.trans (hb5.mono hB4.size)
      clear ho5 at5 hb5 hB4 AT4 H4
      go_wp2_with fail
      refine (eqMoveS_same l _ _ _ _ _ AT4'.out AT5.out hln).mono ?_
      rintro e w6 ⟨rfl, hb6⟩
      have hB6 := hB5.trans (hb6.mono hB5.size)
      clear hb6 hB5 AT4' AT5
      go_wp2
      go_ret
      exact ⟨rfl, hB6⟩

set_option maxRecDepth 100000 in
set_option maxHeartbeats 4000000 in
theorem walk_FnExactMoveThatFails (s : ByteArray) (hs : s.size ≤ maxLen) (A : Option Addr) (n c : Nat) (l : List (Int × Int)) (w : World) (hin : n = l.length ∧ n ≤ maxLen ∧ MvIn w A l) :
    Calls Try.prog 4 #[.string s, .slice A n c] w fun e w' => e = .returned (.bool true) ∧ Below w.heap.size w w' := by
  obtain ⟨rfl, hmax, hin⟩ := hin
  by_cases hbig : (1048576 : Int) < (s.size : Int)
  · clear hin
    go_enter Try.func4, Try.ntmps4
    go_wp2
    go_ret
    exact ⟨rfl, Below.refl _ _⟩
  · have HI := Lib.hid hin
    clear hin
    by_cases hl : 1048576 < l.length
    · go_enter Try.func4, Try.ntmps4
      go_wp2_with fail
      refine (szMoveS_any _ _ _ _ hmax).mono ?_
      rintro e w1 ⟨rfl, rfl⟩
      rw [if_pos hl]
      go_wp2
      go_ret
      exact ⟨rfl, Below.refl _ _⟩
    · have hln : l.length ≤ 2000000 := by omega
      have hnn : ¬ (1048576 : Int) - (l.length : Int) < 0 := by omega
      obtain ⟨r0, r1, hR⟩ : ∃ (r0 : Value) (r1 : Bool), mfVal s l = .tuple #[r0, .bool r1] ∧ ∃ z : Int, r0 = .int .i64 z := by
        unfold mfVal
        split
        · exact ⟨_, _, rfl, _, rfl⟩
        · exact ⟨_, _, rfl, _, rfl⟩
      obtain ⟨hR, r2, rfl⟩ := hR
      have hR := Lib.hid hR
      go_enter Try.func4, Try.ntmps4
      go_wp2_with fail
      refine (szMoveS_any _ _ _ _ hmax).mono ?_
      rintro e w1 ⟨rfl, rfl⟩
      rw [if_neg hl]
      go_wp2_with fail
      refine (toMoveS_any l A c _ HI.out hln).mono ?_
      rintro e w1 ⟨rfl, ho1, hb1⟩
      obtain ⟨A1, c1, hv1, at1⟩ := at_of_own ho1
      injection hv1 with hA1 _ hc1
      subst hA1; subst hc1
      have AT1 := Lib.hid at1
      clear ho1 at1
      go_wp2_with fail
      refine (sMoveFails_any s l _ _ _ hs hln AT1.out.into).mono ?_
      rintro e w2 ⟨rfl, hb2⟩
      rw [hR.out]
      have hB2 := hb1.trans (hb2.mono hb1.size)
      have H2 := Lib.hid (HI.out.below hB2)
      clear hb1 hb2 AT1 HI
      go_wp2_with fail
      refine (toMoveS_any l A c _ H2.out hln).mono ?_
      rintro e w3 ⟨rfl, ho3, hb3⟩
      obtain ⟨A3, c3, hv3, at3⟩ := at_of_own ho3
      injection hv3 with hA3 _ hc3
      subst hA3; subst hc3
      have AT3 := Lib.hid at3
      have hB3 := hB2.trans (hb3.mono hB2.size)
      have H3 := Lib.hid (H2.out.below hb3)
      clear ho3 at3 hb3 hB2 H2
      go_wp2_with fail
      refine (moveFailsN_any s l _ _ _ hs hln AT3.out.into).mono ?_
      rintro e w4 ⟨rfl, hb4⟩
      rw [hR.out]
      have AT4 := Lib.hid (AT3.out.below hb4)
      have H4 := Lib.hid (H3.out.below hb4)
      have hB4 := hB3.trans (hb4.mono hB3.size)
      clear hb4 AT3 H3 hB3
      go_wp2_with fail
      refine (toMoveS_any l A c _ H4.out hln).mono ?_
      rintro e w5 ⟨rfl, ho5, hb5⟩
      obtain ⟨A5, c5, hv5, at5⟩ := at_of_own ho5
      injection hv5 with hA5 _ hc5
      subst hA5; subst hc5
      have AT5 := Lib.hid at5
      have AT4' := Lib.hid (AT4.out.below hb5)
      have hB5 := hB4.trans (hb5.mono hB4.size)
      clear ho5 at5 hb5 hB4 AT4 H4
      go_wp2_with fail
      refine (eqMoveS_same l _ _ _ _ _ AT4'.out AT5.out hln).mono ?_
      rintro e w6 ⟨rfl, hb6⟩
      have hB6 := hB5.trans (hb6.mono hB5.size)
      clear hb6 hB5 AT4' AT5
      go_wp2
      go_ret
      exact ⟨rfl, hB6⟩
end Go.Proofs.Yticdhapbkfbhjaa
