/- The walks of the laws on plays. -/
import Derived.Test.YticdhapbkfbhjabPlayB
import Derived.Test.YticdhapbkfbhjabMovesS
namespace Go.Proofs.Yticdhapbkfbhjab
open Go.RowKit

def askedB (s : ByteArray) (n : Nat) : Bool := goodL s && decide (n ≤ 100)
theorem asked_no {s : ByteArray} {n : Nat} (h : goodL s = false) : askedB s n = false := by simp [askedB, h]

set_option maxHeartbeats 400000 in
theorem liAsked_any (s : ByteArray) (A : Option Addr) (n c : Nat) (w : World) (hs : s.size ≤ maxLen) (hn : n ≤ 2000000) :
    Calls Try.prog 92 #[.string s, .slice A n c] w fun e w' => e = .returned (.bool (askedB s n)) ∧ w = w' := by
  cases hc : goodL s
  · have hR := Lib.hid (asked_no (n := n) hc)
    have hC := Lib.hid hc
    clear hc
    go_enter Try.func92, Try.ntmps92
    go_wp2_with (go_at_call 64; refine (liGood_any _ _ hs).mono ?_; rintro e w' ⟨rfl, rfl⟩; rw [hC.out])
    go_ret
    exact ⟨congrArg (fun b => Ending.returned (.bool b)) hR.out.symm, rfl⟩
  · have hR : Hid (askedB s n = decide ((n : Int) ≤ 100)) := by show _ = _; simp [askedB, hc]; omega
    have hC := Lib.hid hc
    clear hc
    go_enter Try.func92, Try.ntmps92
    go_wp2_with (go_at_call 64; refine (liGood_any _ _ hs).mono ?_; rintro e w' ⟨rfl, rfl⟩; rw [hC.out])
    go_ret
    exact ⟨congrArg (fun b => Ending.returned (.bool b)) hR.out.symm, rfl⟩

set_option maxHeartbeats 400000 in
theorem canPlayOn_any (s : ByteArray) (A : Option Addr) (n c : Nat) (w : World) (hs : s.size ≤ maxLen) (hn : n ≤ 2000000) :
    Calls Try.prog 90 #[.string s, .slice A n c] w fun e w' => e = .returned (.bool (askedB s n)) ∧ w = w' := by
  cases hc : goodL s
  · have hR := Lib.hid (asked_no (n := n) hc)
    have hC := Lib.hid hc
    clear hc
    go_enter Try.func90, Try.ntmps90
    go_wp2_with (go_at_call 32; refine (isLine_any _ _ hs).mono ?_; rintro e w' ⟨rfl, rfl⟩; rw [hC.out])
    go_ret
    exact ⟨congrArg (fun b => Ending.returned (.bool b)) hR.out.symm, rfl⟩
  · have hR : Hid (askedB s n = decide ((n : Int) ≤ 100)) := by show _ = _; simp [askedB, hc]; omega
    have hC := Lib.hid hc
    clear hc
    go_enter Try.func90, Try.ntmps90
    go_wp2_with (go_at_call 32; refine (isLine_any _ _ hs).mono ?_; rintro e w' ⟨rfl, rfl⟩; rw [hC.out])
    go_ret
    exact ⟨congrArg (fun b => Ending.returned (.bool b)) hR.out.symm, rfl⟩

/-- All moves can be made. -/
def allB (s : ByteArray) (l : List (Int × Int)) : Bool := (playS s l).2 == l.length
def plVal (s : ByteArray) (l : List (Int × Int)) : Value := if askedB s l.length && allB s l then .tuple #[.string (playS s l).1, .bool true] else .tuple #[.string (str []), .bool false]
def mfVal (s : ByteArray) (l : List (Int × Int)) : Value := if askedB s l.length && !allB s l then .tuple #[.int .i64 (playS s l).2, .bool true] else .tuple #[.int .i64 0, .bool false]
theorem asked_in {s : ByteArray} {n : Nat} (h : askedB s n = true) : s.size ≤ 1000 ∧ n ≤ 100 := by
  unfold askedB at h
  rw [Bool.and_eq_true] at h
  exact ⟨good1000 h.1, by simpa using h.2⟩

set_option maxHeartbeats 1000000 in
theorem sPlayMoves_any (s : ByteArray) (l : List (Int × Int)) (A : Option Addr) (c : Nat) (w : World) (hs : s.size ≤ maxLen) (hn : l.length ≤ 2000000) (hat : MvIn w A l) :
    Calls Try.prog 55 #[.string s, .slice A l.length c] w fun e w' => e = .returned (plVal s l) ∧ Below w.heap.size w w' := by
  have HA := Lib.hid hat
  clear hat
  cases hc : askedB s l.length
  · have hR : Hid (plVal s l = .tuple #[.string (str []), .bool false]) := by show _ = _; simp [plVal, hc]
    have hC := Lib.hid hc
    clear hc
    go_enter Try.func55, Try.ntmps55
    go_wp2_with (go_at_call 92; refine (liAsked_any _ _ _ _ _ hs hn).mono ?_; rintro e w' ⟨rfl, rfl⟩; rw [hC.out])
    go_ret2
    exact ⟨congrArg Ending.returned hR.out.symm, Below.refl _ _⟩
  · obtain ⟨h1, h100⟩ := asked_in hc
    have hle := playS_le s l
    have hC := Lib.hid hc
    cases hb : allB s l
    · have hR : Hid (plVal s l = .tuple #[.string (str []), .bool false]) := by show _ = _; simp [plVal, hc, hb]
      have hlt : (playS s l).2 < l.length := by
        have : (playS s l).2 ≠ l.length := by intro e; simp [allB, e] at hb
        omega
      have hne : (((playS s l).2 : Int) == (l.length : Int)) = false := by simp; omega
      clear hc hb
      go_enter Try.func55, Try.ntmps55
      go_wp2_with fail
      refine (liAsked_any _ _ _ _ _ hs hn).mono ?_; rintro e w' ⟨rfl, rfl⟩; rw [hC.out]
      go_wp2_with fail
      refine (liPlay_any _ _ _ _ _ HA.out h100 h1).mono ?_
      rintro e w1 ⟨rfl, hb1⟩
      generalize playS s l = q at hR hle hlt hne
      go_wp2
      go_ret2
      exact ⟨congrArg Ending.returned hR.out.symm, hb1⟩
    · have hR : Hid (plVal s l = .tuple #[.string (playS s l).1, .bool true]) := by show _ = _; simp [plVal, hc, hb]
      have heq : (playS s l).2 = l.length := by simpa [allB] using hb
      clear hc hb
      go_enter Try.func55, Try.ntmps55
      go_wp2_with fail
      refine (liAsked_any _ _ _ _ _ hs hn).mono ?_; rintro e w' ⟨rfl, rfl⟩; rw [hC.out]
      go_wp2_with fail
      refine (liPlay_any _ _ _ _ _ HA.out h100 h1).mono ?_
      rintro e w1 ⟨rfl, hb1⟩
      rw [heq]
      clear heq hle
      go_wp2
      go_ret2
      exact ⟨congrArg Ending.returned hR.out.symm, hb1⟩

set_option maxHeartbeats 1000000 in
theorem sMoveFails_any (s : ByteArray) (l : List (Int × Int)) (A : Option Addr) (c : Nat) (w : World) (hs : s.size ≤ maxLen) (hn : l.length ≤ 2000000) (hat : MvIn w A l) :
    Calls Try.prog 57 #[.string s, .slice A l.length c] w fun e w' => e = .returned (mfVal s l) ∧ Below w.heap.size w w' := by
  have HA := Lib.hid hat
  clear hat
  cases hc : askedB s l.length
  · have hR : Hid (mfVal s l = .tuple #[.int .i64 0, .bool false]) := by show _ = _; simp [mfVal, hc]
    have hC := Lib.hid hc
    clear hc
    go_enter Try.func57, Try.ntmps57
    go_wp2_with (go_at_call 92; refine (liAsked_any _ _ _ _ _ hs hn).mono ?_; rintro e w' ⟨rfl, rfl⟩; rw [hC.out])
    go_ret2
    exact ⟨congrArg Ending.returned hR.out.symm, Below.refl _ _⟩
  · obtain ⟨h1, h100⟩ := asked_in hc
    have hle := playS_le s l
    have hC := Lib.hid hc
    cases hb : allB s l
    · have hR : Hid (mfVal s l = .tuple #[.int .i64 (playS s l).2, .bool true]) := by show _ = _; simp [mfVal, hc, hb]
      have hlt : (playS s l).2 < l.length := by
        have : (playS s l).2 ≠ l.length := by intro e; simp [allB, e] at hb
        omega
      have hne : (((playS s l).2 : Int) == (l.length : Int)) = false := by simp; omega
      clear hc hb
      go_enter Try.func57, Try.ntmps57
      go_wp2_with fail
      refine (liAsked_any _ _ _ _ _ hs hn).mono ?_; rintro e w' ⟨rfl, rfl⟩; rw [hC.out]
      go_wp2_with fail
      refine (liPlay_any _ _ _ _ _ HA.out h100 h1).mono ?_
      rintro e w1 ⟨rfl, hb1⟩
      generalize playS s l = q at hR hle hlt hne
      go_wp2
      go_ret2
      exact ⟨congrArg Ending.returned hR.out.symm, hb1⟩
    · have hR : Hid (mfVal s l = .tuple #[.int .i64 0, .bool false]) := by show _ = _; simp [mfVal, hc, hb]
      have heq : (playS s l).2 = l.length := by simpa [allB] using hb
      clear hc hb
      go_enter Try.func57, Try.ntmps57
      go_wp2_with fail
      refine (liAsked_any _ _ _ _ _ hs hn).mono ?_; rintro e w' ⟨rfl, rfl⟩; rw [hC.out]
      go_wp2_with fail
      refine (liPlay_any _ _ _ _ _ HA.out h100 h1).mono ?_
      rintro e w1 ⟨rfl, hb1⟩
      rw [heq]
      clear heq hle
      go_wp2
      go_ret2
      exact ⟨congrArg Ending.returned hR.out.symm, hb1⟩

end Go.Proofs.Yticdhapbkfbhjab
