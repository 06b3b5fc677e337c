/- Contracts: rings as texts: what a ring is, turned rings, mirrored ones. -/
import Derived.Test.YtoiaklnaecghnaaDoorCiA
import Derived.Test.YtoiaklnaecghnaaDoorOtL
import Derived.Test.YtoiaklnaecghnaaDoorImpB
import Derived.Test.YtoiaklnaecghnaaDoorSpecA
namespace Go.Proofs.YtoiaklnaecghnaaDoor
open Go.RowKit

theorem ring_in (s : ByteArray) (h : goodL s = true) : ringB s = inR (s.size : Int) 3 9 := by
  unfold ringB inR
  rw [h, Bool.true_and]
  congr 1 <;> (rw [decide_eq_decide]; omega)
theorem ring_no {s : ByteArray} (h : goodL s = false) : ringB s = false := by unfold ringB; rw [h]; rfl

set_option maxHeartbeats 400000 in
theorem ciGood_any (s : ByteArray) (w : World) (hs : s.size ≤ maxLen) :
    Calls Tryd.prog 78 #[.string s] w fun e w' => e = .returned (.bool (ringB s)) ∧ w = w' := by
  cases hc : goodL s
  · have hR := Lib.hid (ring_no hc)
    have hC := Lib.hid hc
    clear hc
    go_enter Tryd.func78, Tryd.ntmps78
    go_wp2_with (go_at_call 99; refine (liGood_any _ _ hs).mono ?_; rintro e w' ⟨rfl, rfl⟩; rw [hC.out])
    go_ret
    exact ⟨congrArg (fun b => Ending.returned (.bool b)) hR.out.symm, rfl⟩
  · have hR := Lib.hid (ring_in s hc)
    have hC := Lib.hid hc
    clear hc
    go_enter Tryd.func78, Tryd.ntmps78
    go_wp2_with fail
    refine (liGood_any _ _ hs).mono ?_; rintro e w' ⟨rfl, rfl⟩; rw [hC.out]
    go_wp2_with fail
    refine (l1In_any _ _ _ _).mono ?_; rintro e w' ⟨rfl, rfl⟩
    go_wp2
    go_ret
    exact ⟨congrArg (fun b => Ending.returned (.bool b)) hR.out.symm, rfl⟩

set_option maxHeartbeats 400000 in
theorem isRing_any (s : ByteArray) (w : World) (hs : s.size ≤ maxLen) :
    Calls Tryd.prog 80 #[.string s] w fun e w' => e = .returned (.bool (ringB s)) ∧ w = w' := by
  cases hc : goodL s
  · have hR := Lib.hid (ring_no hc)
    have hC := Lib.hid hc
    clear hc
    go_enter Tryd.func80, Tryd.ntmps80
    go_wp2_with (go_at_call 106; refine (isLine_any _ _ hs).mono ?_; rintro e w' ⟨rfl, rfl⟩; rw [hC.out])
    go_ret
    exact ⟨congrArg (fun b => Ending.returned (.bool b)) hR.out.symm, rfl⟩
  · have hR := Lib.hid (ring_in s hc)
    have hC := Lib.hid hc
    clear hc
    by_cases h3 : (3 : Int) ≤ (s.size : Int)
    · have hR2 : Hid (ringB s = decide ((s.size : Int) ≤ 9)) := Lib.hid (by rw [hR.out]; unfold inR; simp [h3])
      go_enter Tryd.func80, Tryd.ntmps80
      go_wp2_with (go_at_call 106; refine (isLine_any _ _ hs).mono ?_; rintro e w' ⟨rfl, rfl⟩; rw [hC.out])
      go_ret
      exact ⟨congrArg (fun b => Ending.returned (.bool b)) hR2.out.symm, rfl⟩
    · have hR2 : Hid (ringB s = false) := Lib.hid (by rw [hR.out]; unfold inR; simp [h3])
      go_enter Tryd.func80, Tryd.ntmps80
      go_wp2_with (go_at_call 106; refine (isLine_any _ _ hs).mono ?_; rintro e w' ⟨rfl, rfl⟩; rw [hC.out])
      go_ret
      exact ⟨congrArg (fun b => Ending.returned (.bool b)) hR2.out.symm, rfl⟩

/-- A ring by so many cells farther on. -/
def turnB (s : ByteArray) (k : Nat) : ByteArray := s.extract (s.size - k) s.size ++ s.extract 0 (s.size - k)
def turnL (l : List UInt8) (k : Nat) : List UInt8 := l.drop (l.length - k) ++ l.take (l.length - k)
theorem byt_app (a b : ByteArray) : byt (a ++ b) = byt a ++ byt b := by
  have : a ++ b = str (byt a ++ byt b) := by rw [← str_app, str_byt, str_byt]
  rw [this, byt_str]
theorem byt_inj {a b : ByteArray} (h : byt a = byt b) : a = b := by rw [← str_byt a, h, str_byt]
theorem byt_extract (s : ByteArray) (i j : Nat) : byt (s.extract i j) = ((byt s).take j).drop i := by
  unfold byt
  rw [ByteArray.data_extract]
  simp [List.take_drop]
  by_cases h : i ≤ j
  · rw [show i + (j - i) = j by omega]
  · rw [List.drop_of_length_le (by simp; omega), List.drop_of_length_le (by simp; omega)]
theorem turnB_byt (s : ByteArray) (k : Nat) : byt (turnB s k) = turnL (byt s) k := by
  unfold turnB turnL
  rw [byt_app, byt_extract, byt_extract, byt_len]
  simp [take_all]
  
theorem turnB_str (s : ByteArray) (k : Nat) : turnB s k = str (turnL (byt s) k) := by rw [← turnB_byt, str_byt]
theorem turnL_len (l : List UInt8) (k : Nat) : (turnL l k).length = l.length := by simp [turnL]

/-- The answer on a turned ring. -/
def turnV (s : ByteArray) (k : Int) : Value := strOr (ringB s && inR k 0 (s.size - 1)) (turnL (byt s) k.toNat)

/-- The first of the rings turned by less than so many cells. -/
def leastTo (l : List UInt8) : Nat → List UInt8
  | 0 => l
  | k + 1 => if turnL l k < leastTo l k then turnL l k else leastTo l k
theorem leastTo_len (l : List UInt8) (k : Nat) : (leastTo l k).length = l.length := by
  induction k with
  | zero => rfl
  | succ k ih =>
    unfold leastTo
    split
    · exact turnL_len l k
    · exact ih
def leastL (l : List UInt8) : List UInt8 := leastTo l l.length
end Go.Proofs.YtoiaklnaecghnaaDoor
