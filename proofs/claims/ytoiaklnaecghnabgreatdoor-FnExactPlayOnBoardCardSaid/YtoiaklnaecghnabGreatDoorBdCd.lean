/- When a move on a board can be made, as the model asks it (no walk). -/
import Derived.Test.YtoiaklnaecghnabGreatDoorBdAt
namespace Go.Proofs.YtoiaklnaecghnabGreatDoor
open Go.RowKit

/-- The four places that a move is asked at: side 0 (in the row) or 1 (in the column), one or two steps away. -/
def stX (step : Int) (i : Nat) : Int := if i < 2 then step else 0
def stY (step : Int) (i : Nat) : Int := if i < 2 then 0 else step
def farI (i : Nat) : Int := if i % 2 = 0 then 1 else 2
def hitI (R : List (List UInt8)) (wd : Nat) (x y t step : Int) (i : Nat) : Bool :=
  !(boCell R wd (x + farI i * stX step i) (y + farI i * stY step i) == 32) && t == (y + farI i * stY step i) * wd + x + farI i * stX step i
def telI (R : List (List UInt8)) (wd : Nat) (x y step : Int) (tv other : UInt8) (i : Nat) : Bool :=
  tv == 46 && (farI i == 1 || boCell R wd (x + stX step i) (y + stY step i) == other)
/-- What is left to ask, k places being left. -/
def restI (R : List (List UInt8)) (wd : Nat) (x y t step : Int) (tv other : UInt8) : Nat → Bool
  | 0 => false
  | k + 1 => if hitI R wd x y t step (3 - k) then telI R wd x y step tv other (3 - k) else restI R wd x y t step tv other k
/-- A move can be made: from the place x, y to the place u, v. -/
def boCN (R : List (List UInt8)) (wd x y u v : Nat) : Bool :=
  let t : Int := v * wd + u
  let tv := boCell R wd u v
  if boCell R wd x y == 84 then restI R wd x y t 1 tv 70 4
  else if boCell R wd x y == 70 then restI R wd x y t (-1) tv 84 4 else false
def boC (R : List (List UInt8)) (wd : Nat) (f t : Int) : Bool :=
  inR f 0 (wd * R.length - 1) && (inR t 0 (wd * R.length - 1) && boCN R wd (f.toNat % wd) (f.toNat / wd) (t.toNat % wd) (t.toNat / wd))

theorem qb (y wd : Nat) (c : Int) (hy : y ≤ 24) (h1 : 1 ≤ wd) (h5 : wd ≤ 5) (hc : -2 ≤ c ∧ c ≤ 2) : -10 ≤ ((y : Int) + c) * wd ∧ ((y : Int) + c) * wd ≤ 130 := by
  have h : wd = 1 ∨ wd = 2 ∨ wd = 3 ∨ wd = 4 ∨ wd = 5 := by omega
  rcases h with rfl | rfl | rfl | rfl | rfl <;> omega
theorem qb0 (y wd : Nat) (hy : y ≤ 24) (h1 : 1 ≤ wd) (h5 : wd ≤ 5) : -10 ≤ (y : Int) * wd ∧ (y : Int) * wd ≤ 130 := by
  have h := qb y wd 0 hy h1 h5 (by omega)
  simpa using h

end Go.Proofs.YtoiaklnaecghnabGreatDoor
