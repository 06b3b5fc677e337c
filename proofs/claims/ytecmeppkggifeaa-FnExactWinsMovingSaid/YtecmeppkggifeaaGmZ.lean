/- The laws' walks: who wins a line, its outcome, whether it is nothing. -/
import Derived.Test.YtecmeppkggifeaaGmY
namespace Go.Proofs.Ytecmeppkggifeaa
open Go.RowKit

set_option maxHeartbeats 1000000 in
theorem walk_FnExactWinsMoving (s : ByteArray) (hs : s.size ≤ maxLen) (tm : Bool) (w : World) :
    Calls Try.prog 3 #[.string s, .bool tm] w fun e w' => e = .returned (.bool true) ∧ Below w.heap.size w w' := by
  obtain ⟨wl, hwl⟩ : ∃ wl, s = str wl := ⟨byt s, (str_byt s).symm⟩
  subst hwl
  by_cases hbig : (1048576 : Int) < ((str wl).size : Int)
  · go_enter Try.func3, Try.ntmps3
    go_wp2
    go_ret
    exact ⟨rfl, Below.refl _ _⟩
  · have HS := Lib.hid (fun wx => sWinsMoving_any wl tm wx hs)
    have HP := Lib.hid (fun wx => winsMoving_any wl tm wx hs)
    generalize Wn tm wl = r at HS HP
    unfold boolOr at HS HP
    generalize fewB (str wl) = q at HS HP
    cases q
    all_goals
      simp only [if_true, if_false, Bool.false_eq_true] at HS HP
      go_enter Try.func3, Try.ntmps3
      go_wp2_with fail
      refine (HS.out _).mono ?_
      rintro e w1 ⟨rfl, hb1⟩
      go_wp2_with fail
      refine (HP.out _).mono ?_
      rintro e w2 ⟨rfl, hb2⟩
      go_wp2
      go_ret
      exact ⟨rfl, hb1.trans (hb2.mono hb1.size)⟩

set_option maxHeartbeats 1000000 in
theorem walk_FnExactOutcomeOf (s : ByteArray) (hs : s.size ≤ maxLen) (w : World) :
    Calls Try.prog 4 #[.string s] w fun e w' => e = .returned (.bool true) ∧ Below w.heap.size w w' := by
  obtain ⟨wl, hwl⟩ : ∃ wl, s = str wl := ⟨byt s, (str_byt s).symm⟩
  subst hwl
  by_cases hbig : (1048576 : Int) < ((str wl).size : Int)
  · go_enter Try.func4, Try.ntmps4
    go_wp2
    go_ret
    exact ⟨rfl, Below.refl _ _⟩
  · have HS := Lib.hid (fun wx => sOutcomeOf_any wl wx hs)
    have HP := Lib.hid (fun wx => outcomeOf_any wl wx hs)
    generalize [outC (Wn true wl) (Wn false wl)] = r at HS HP
    have hq := same_str r r
    have hq0 := same_str [] []
    simp only [decide_true] at hq hq0
    unfold strOr at HS HP
    generalize fewB (str wl) = q at HS HP
    cases q
    all_goals
      simp only [if_true, if_false, Bool.false_eq_true] at HS HP
      go_enter Try.func4, Try.ntmps4
      go_wp2_with fail
      refine (HS.out _).mono ?_
      rintro e w1 ⟨rfl, hb1⟩
      go_wp2_with fail
      refine (HP.out _).mono ?_
      rintro e w2 ⟨rfl, hb2⟩
      go_wp2
      go_ret
      exact ⟨rfl, hb1.trans (hb2.mono hb1.size)⟩

set_option maxHeartbeats 1000000 in
theorem walk_FnExactIsNothing (s : ByteArray) (hs : s.size ≤ maxLen) (w : World) :
    Calls Try.prog 10 #[.string s] w fun e w' => e = .returned (.bool true) ∧ Below w.heap.size w w' := by
  obtain ⟨wl, hwl⟩ : ∃ wl, s = str wl := ⟨byt s, (str_byt s).symm⟩
  subst hwl
  by_cases hbig : (1048576 : Int) < ((str wl).size : Int)
  · go_enter Try.func10, Try.ntmps10
    go_wp2
    go_ret
    exact ⟨rfl, Below.refl _ _⟩
  · have HS := Lib.hid (fun wx => sIsNothing_any wl wx hs)
    have HP := Lib.hid (fun wx => isNothing_any wl wx hs)
    generalize (!Wn true wl && !Wn false wl) = r at HS HP
    unfold boolOr at HS HP
    generalize fewB (str wl) = q at HS HP
    cases q
    all_goals
      simp only [if_true, if_false, Bool.false_eq_true] at HS HP
      go_enter Try.func10, Try.ntmps10
      go_wp2_with fail
      refine (HS.out _).mono ?_
      rintro e w1 ⟨rfl, hb1⟩
      go_wp2_with fail
      refine (HP.out _).mono ?_
      rintro e w2 ⟨rfl, hb2⟩
      go_wp2
      go_ret
      exact ⟨rfl, hb1.trans (hb2.mono hb1.size)⟩
end Go.Proofs.Ytecmeppkggifeaa
