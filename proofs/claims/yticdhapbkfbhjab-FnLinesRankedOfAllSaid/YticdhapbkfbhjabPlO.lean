/- PlayMoves, MoveThatFails: the walks of their laws, the maker handed over. -/
import Derived.Test.YticdhapbkfbhjabPlN
namespace Go.Proofs.Yticdhapbkfbhjab
open Go.RowKit

set_option maxHeartbeats 1000000 in
theorem moveFails_fn (N : FuncId) (mk : ByteArray → Int → Int → Option ByteArray) (Inv : ByteArray → Prop) (hmk : MkOk N mk Inv) (s0 : ByteArray) (h0 : Inv s0) (l : List (Int × Int)) (A : Option Addr) (c : Nat) (w : World) (hat : MvIn w A l) (hl : l.length ≤ 1000) :
    Calls Try.prog 94 #[.string s0, .slice A l.length c, .func (.func N) #[] #[]] w fun e w' => e = .returned (if (playG mk s0 l).2 == l.length then .tuple #[.int .i64 0, .bool false] else .tuple #[.int .i64 (playG mk s0 l).2, .bool true]) ∧ Below w.heap.size w w' := by
  have HC := Lib.hid (playOn_fn N mk Inv hmk s0 h0 l A c w hat hl)
  have hle := playG_le mk l s0
  clear hmk h0 hat
  by_cases he : (playG mk s0 l).2 = l.length
  · have hV : Hid ((if (playG mk s0 l).2 == l.length then Value.tuple #[.int .i64 0, .bool false] else .tuple #[.int .i64 (playG mk s0 l).2, .bool true]) = .tuple #[.int .i64 0, .bool false]) := Lib.hid (by rw [if_pos (by simpa using he)])
    rw [hV.out]
    have he2 : Hid ((playG mk s0 l).2 = l.length) := Lib.hid he
    clear he hV hle
    go_enter Try.func94, Try.ntmps94
    go_wp2_with fail
    refine HC.out.mono ?_
    rintro e w1 ⟨rfl, hb1⟩
    rw [he2.out]
    go_wp2_with fail
    go_ret2
    exact ⟨rfl, hb1⟩
  · have hV : Hid ((if (playG mk s0 l).2 == l.length then Value.tuple #[.int .i64 0, .bool false] else .tuple #[.int .i64 (playG mk s0 l).2, .bool true]) = .tuple #[.int .i64 (playG mk s0 l).2, .bool true]) := Lib.hid (by rw [if_neg (by simpa using he)])
    rw [hV.out]
    have hne : (((playG mk s0 l).2 : Int) == (l.length : Int)) = false := by simp; omega
    clear he hV hle
    generalize playG mk s0 l = q at HC hne ⊢
    go_enter Try.func94, Try.ntmps94
    go_wp2_with fail
    refine HC.out.mono ?_
    rintro e w1 ⟨rfl, hb1⟩
    go_wp2_with fail
    go_ret2
    exact ⟨rfl, hb1⟩
set_option maxHeartbeats 1000000 in
theorem moveFailsN_any (s : ByteArray) (l : List (Int × Int)) (A : Option Addr) (c : Nat) (w : World) (hs : s.size ≤ maxLen) (hn : l.length ≤ 2000000) (hat : MvIn w A l) :
    Calls Try.prog 56 #[.string s, .slice A l.length c] w fun e w' => e = .returned (mfVal s l) ∧ Below w.heap.size w w' := by
  have HA := Lib.hid hat
  clear hat
  cases hc : askedB s l.length
  · have hR : Hid (mfVal s l = .tuple #[.int .i64 0, .bool false]) := by show _ = _; simp [mfVal, hc]
    have hC := Lib.hid hc
    clear hc
    go_enter Try.func56, Try.ntmps56
    go_wp2_with (go_at_call 90; refine (canPlayOn_any _ _ _ _ _ hs hn).mono ?_; rintro e w' ⟨rfl, rfl⟩; rw [hC.out])
    go_ret2
    exact ⟨congrArg Ending.returned hR.out.symm, Below.refl _ _⟩
  · obtain ⟨h1, h100⟩ := asked_in hc
    have hR : Hid (mfVal s l = (if (playG mkL s l).2 == l.length then .tuple #[.int .i64 0, .bool false] else .tuple #[.int .i64 (playG mkL s l).2, .bool true])) := Lib.hid (by
      rw [playG_L l s (by simp [askedB] at hc; exact hc.1)]
      unfold mfVal allB
      rw [hc]
      cases ((playS s l).2 == l.length) <;> rfl)
    have hC := Lib.hid hc
    clear hc
    obtain ⟨r0, r1, hR0⟩ : ∃ (r0 : Int) (r1 : Bool), mfVal s l = .tuple #[.int .i64 r0, .bool r1] := by
      unfold mfVal
      split
      · exact ⟨_, _, rfl⟩
      · exact ⟨_, _, rfl⟩
    have HC := Lib.hid (moveFails_fn _ mkL _ mkL_ok s hs l A c w HA.out (by omega))
    rw [← hR.out, hR0] at HC
    rw [hR0]
    clear hR hR0
    go_enter Try.func56, Try.ntmps56
    go_wp2_with fail
    refine (canPlayOn_any _ _ _ _ _ hs hn).mono ?_; rintro e w' ⟨rfl, rfl⟩; rw [hC.out]
    go_wp2_with fail
    refine HC.out.mono ?_
    rintro e w1 ⟨rfl, hb1⟩
    go_wp2_with fail
    go_ret2
    exact ⟨rfl, hb1⟩

end Go.Proofs.Yticdhapbkfbhjab
