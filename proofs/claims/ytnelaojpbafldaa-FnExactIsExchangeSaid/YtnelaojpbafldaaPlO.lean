/- PlayMoves, MoveThatFails: the walks of their laws, the maker handed over. -/
import Derived.Test.YtnelaojpbafldaaPlN
namespace Go.Proofs.Ytnelaojpbafldaa
open Go.RowKit

set_option maxHeartbeats 1000000 in
theorem moveFailsN_any (s : ByteArray) (l : List (Int × Int)) (A : Option Addr) (c : Nat) (w : World) (hs : s.size ≤ maxLen) (hn : l.length ≤ 2000000) (hat : MvIn w A l) :
    Calls Try.prog 47 #[.string s, .slice A l.length c] w fun e w' => e = .returned (mfVal s l) ∧ Below w.heap.size w w' := by
  have HA := Lib.hid hat
  clear hat
  cases hc : askedB s l.length
  · have hR : Hid (mfVal s l = .tuple #[.int .i64 0, .bool false]) := by show _ = _; simp [mfVal, hc]
    have hC := Lib.hid hc
    clear hc
    go_enter Try.func47, Try.ntmps47
    go_wp2_with (go_at_call 88; refine (canPlayOn_any _ _ _ _ _ hs hn).mono ?_; rintro e w' ⟨rfl, rfl⟩; rw [hC.out])
    go_ret2
    exact ⟨congrArg Ending.returned hR.out.symm, Below.refl _ _⟩
  · obtain ⟨h1, h100⟩ := asked_in hc
    have hle := playS_le s l
    have HPG : Hid (playG mkL s l = playS s l) := Lib.hid (playG_L l s (by simp [askedB] at hc; exact hc.1))
    have hC := Lib.hid hc
    cases hb : allB s l
    · have hR : Hid (mfVal s l = .tuple #[.int .i64 (playS s l).2, .bool true]) := by show _ = _; simp [mfVal, hc, hb]
      have hlt : (playS s l).2 < l.length := by
        have : (playS s l).2 ≠ l.length := by intro e; simp [allB, e] at hb
        omega
      have hne : (((playS s l).2 : Int) == (l.length : Int)) = false := by simp; omega
      clear hc hb
      go_enter Try.func47, Try.ntmps47
      go_wp2_with fail
      refine (canPlayOn_any _ _ _ _ _ hs hn).mono ?_; rintro e w' ⟨rfl, rfl⟩; rw [hC.out]
      go_wp2_with fail
      refine (playOn_fn _ mkL _ mkL_ok s hs l A c _ HA.out (by omega)).mono ?_
      rw [HPG.out]
      rintro e w1 ⟨rfl, hb1⟩
      generalize playS s l = q at hR hle hlt hne
      go_wp2
      go_ret2
      exact ⟨congrArg Ending.returned hR.out.symm, hb1⟩
    · have hR : Hid (mfVal s l = .tuple #[.int .i64 0, .bool false]) := by show _ = _; simp [mfVal, hc, hb]
      have heq : (playS s l).2 = l.length := by simpa [allB] using hb
      clear hc hb
      go_enter Try.func47, Try.ntmps47
      go_wp2_with fail
      refine (canPlayOn_any _ _ _ _ _ hs hn).mono ?_; rintro e w' ⟨rfl, rfl⟩; rw [hC.out]
      go_wp2_with fail
      refine (playOn_fn _ mkL _ mkL_ok s hs l A c _ HA.out (by omega)).mono ?_
      rw [HPG.out]
      rintro e w1 ⟨rfl, hb1⟩
      rw [heq]
      clear heq hle
      go_wp2
      go_ret2
      exact ⟨congrArg Ending.returned hR.out.symm, hb1⟩

end Go.Proofs.Ytnelaojpbafldaa
