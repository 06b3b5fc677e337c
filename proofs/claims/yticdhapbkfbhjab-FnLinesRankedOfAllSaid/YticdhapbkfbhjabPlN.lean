/- Contracts: the program's PlayMoves, its maker handed over. -/
import Derived.Test.YticdhapbkfbhjabPlG
import Derived.Test.YticdhapbkfbhjabPlayM
namespace Go.Proofs.Yticdhapbkfbhjab
open Go.RowKit

def mkL (s : ByteArray) (f t : Int) : Option ByteArray := if goodL s && canM s f t then some (str (behind s f t)) else none
theorem mkL_mk (s : ByteArray) (f t : Int) : mkV (mkL s f t) = strOr (goodL s && canM s f t) (behind s f t) := by
  unfold mkL strOr
  split <;> rfl
theorem mkL_ok : MkOk 36 mkL (fun s => s.size ≤ maxLen) where
  enter := fun args w => enters_of Try.func36 (by kernel_rfl) rfl args w
  call := fun s f t w hs => by
    rw [mkL_mk]
    exact makeMove_any s f t w hs
  keep := fun s r f t hs h => by
    unfold mkL at h
    split at h
    · injection h with h
      rw [← h, str_size, behind_len]
      exact hs
    · cases h
theorem playG_L : ∀ (l : List (Int × Int)) (s : ByteArray), goodL s = true → playG mkL s l = playS s l
  | [], s, _ => rfl
  | p :: r, s, hg => by
    cases hc : canM s p.1 p.2
    · have e : mkL s p.1 p.2 = none := by unfold mkL; rw [hg, hc]; rfl
      unfold playG playS
      rw [e, hc]
      rfl
    · have e : mkL s p.1 p.2 = some (str (behind s p.1 p.2)) := by unfold mkL; rw [hg, hc]; rfl
      unfold playG playS
      rw [e, hc]
      simp only [if_true]
      rw [playG_L r _ (behind_good hg hc)]

theorem allG_L (s : ByteArray) (l : List (Int × Int)) (h : askedB s l.length = true) : mkV (allG mkL s l) = plVal s l := by
  have hg : goodL s = true := by simp [askedB] at h; exact h.1
  unfold allG plVal allB
  rw [playG_L l s hg, h, Bool.true_and]
  by_cases e : (playS s l).2 = l.length
  · rw [if_pos e, if_pos (by simpa using e)]; rfl
  · rw [if_neg e, if_neg (by simpa using e)]; rfl

set_option maxHeartbeats 1000000 in
theorem playMovesN_any (s : ByteArray) (l : List (Int × Int)) (A : Option Addr) (c : Nat) (w : World) (hs : s.size ≤ maxLen) (hn : l.length ≤ 2000000) (hat : MvIn w A l) :
    Calls Try.prog 54 #[.string s, .slice A l.length c] w fun e w' => e = .returned (plVal s l) ∧ Below w.heap.size w w' := by
  have HA := Lib.hid hat
  clear hat
  cases hc : askedB s l.length
  · have hR : Hid (plVal s l = .tuple #[.string (str []), .bool false]) := by show _ = _; simp [plVal, hc]
    have hC := Lib.hid hc
    clear hc
    go_enter Try.func54, Try.ntmps54
    go_wp2_with (go_at_call 90; refine (canPlayOn_any _ _ _ _ _ hs hn).mono ?_; rintro e w' ⟨rfl, rfl⟩; rw [hC.out])
    go_ret2
    exact ⟨congrArg Ending.returned hR.out.symm, Below.refl _ _⟩
  · obtain ⟨h1, h100⟩ := asked_in hc
    have HQ := Lib.hid (allG_L s l hc)
    obtain ⟨x, y, hxy⟩ : ∃ (x : ByteArray) (y : Bool), plVal s l = .tuple #[.string x, .bool y] := by
      unfold plVal
      split
      · exact ⟨_, _, rfl⟩
      · exact ⟨_, _, rfl⟩
    have HXY := Lib.hid hxy
    have hC := Lib.hid hc
    clear hc hxy
    go_enter Try.func54, Try.ntmps54
    go_wp2_with fail
    refine (canPlayOn_any _ _ _ _ _ hs hn).mono ?_; rintro e w' ⟨rfl, rfl⟩; rw [hC.out]
    go_wp2_with fail
    refine (playAll_fn _ mkL _ mkL_ok s hs l A c _ HA.out (by omega)).mono ?_
    rintro e w1 ⟨rfl, hb1⟩
    rw [HQ.out, HXY.out]
    go_wp2
    go_ret2
    exact ⟨by rw [HXY.out]; rfl, hb1⟩
end Go.Proofs.Yticdhapbkfbhjab
