/- Contract: the model's sign of a cell. -/
import Derived.Test.YtoiaklnaecghnabGreatDoorBdV
namespace Go.Proofs.YtoiaklnaecghnabGreatDoor
open Go.RowKit

/-- The sign of a cell in a row y and a column x, or a blank. -/
def boCell (R : List (List UInt8)) (wd : Nat) (x y : Int) : UInt8 := if inR y 0 (R.length - 1) && inR x 0 (wd - 1) then (R.getD y.toNat []).getD x.toNat 0 else 32

set_option maxRecDepth 100000 in
set_option maxHeartbeats 1000000 in
theorem boAt_any (R : List (List UInt8)) (wd : Nat) (A : Option Addr) (cap : Nat) (x y : Int) (w : World) (hA : StAt w A R) (h1 : 1 ≤ R.length) (h5 : R.length ≤ 5) (hw1 : 1 ≤ wd) (hw5 : wd ≤ 5) (hl : ∀ r ∈ R, r.length = wd) :
    Calls Tryz.prog 35 #[.slice A R.length cap, .int .i64 x, .int .i64 y] w fun e w' => e = .returned (.int .u8 (boCell R wd x y).toNat) ∧ w' = w := by
  obtain ⟨i0, hi, hz0, hz1, hz2⟩ := info_parts Tryz.infoS
  have HI := Lib.hid hi
  have HZ0 := Lib.hid hz0
  have HZ1 := Lib.hid hz1
  have HZ2 := Lib.hid hz2
  clear hi hz0 hz1 hz2
  have HA := Lib.hid hA
  obtain ⟨g, rfl, hgw, hcell0⟩ := hA 0 h1
  have HS0 : Hid ((str (R[0]'h1)).size = wd) := Lib.hid (by rw [str_size]; exact hl _ (List.getElem_mem h1))
  have HZR : Hid (∀ y (hy : y < R.length), (str R[y]).size = wd) := Lib.hid fun y hy => by rw [str_size]; exact hl _ (List.getElem_mem hy)
  generalize str (R[0]'h1) = s0 at hcell0 HS0
  obtain rfl : s0.size = wd := HS0.out
  cases hy : inR y 0 (R.length - 1)
  · have HR : Hid (boCell R s0.size x y = 32) := Lib.hid (by unfold boCell; rw [hy]; rfl)
    have HY := Lib.hid hy
    clear hy
    rw [HR.out]
    go_enter Tryz.func35, Tryz.ntmps35
    go_wp2_with fail
    refine (l1In_any _ _ _ _).mono ?_; rintro e w' ⟨rfl, rfl⟩; rw [HY.out]
    go_wp2_with fail
    go_ret
    exact ⟨rfl, rfl⟩
  · have HY := Lib.hid hy
    obtain ⟨n, rfl, hn⟩ : ∃ n : Nat, y = (n : Int) ∧ n < R.length := by
      simp [inR] at hy
      exact ⟨y.toNat, by omega, by omega⟩
    cases hx : inR x 0 (s0.size - 1)
    · have HR : Hid (boCell R s0.size x n = 32) := Lib.hid (by unfold boCell; rw [hy, hx]; rfl)
      have HX := Lib.hid hx
      clear hx hy
      rw [HR.out]
      go_enter Tryz.func35, Tryz.ntmps35
      go_wp2_with fail
      refine (l1In_any _ _ _ _).mono ?_; rintro e w' ⟨rfl, rfl⟩; rw [HY.out]
      go_wp2_with fail
      refine (l1In_any _ _ _ _).mono ?_; rintro e w' ⟨rfl, rfl⟩; rw [HX.out]
      go_wp2_with fail
      go_ret
      exact ⟨rfl, rfl⟩
    · have HX := Lib.hid hx
      obtain ⟨m, rfl, hm⟩ : ∃ m : Nat, x = (m : Int) ∧ m < s0.size := by
        simp [inR] at hx
        exact ⟨x.toNat, by omega, by omega⟩
      have hsz := HZR.out n hn
      have hk : m < R[n].length := by rw [← str_size, hsz]; exact hm
      have HR : Hid (boCell R s0.size m n = R[n][m]) := Lib.hid (by
        unfold boCell
        rw [hy, hx]
        show (R.getD (n : Int).toNat []).getD (m : Int).toNat 0 = _
        have e1 : R.getD n [] = R[n] := by rw [List.getD_eq_getElem?_getD, List.getElem?_eq_getElem hn]; rfl
        rw [Int.toNat_natCast, Int.toNat_natCast, e1, List.getD_eq_getElem?_getD, List.getElem?_eq_getElem hk]
        rfl)
      clear hx hy
      rw [HR.out]
      obtain ⟨g1, e1, hg1, hcell⟩ := HA.out n hn
      injection e1 with e1
      injection e1 with e1
      subst e1
      have hmm : m < (str R[n]).size := by rw [hsz]; exact hm
      have hget2 : Hid ((str R[n])[m]'hmm = R[n][m]) := Lib.hid (by first | rfl | simp [str] | (unfold str; rfl) | (simp [str, ByteArray.getElem_eq_getElem_data]))
      go_enter Tryz.func35, Tryz.ntmps35
      go_wp2_with fail
      refine (l1In_any _ _ _ _).mono ?_; rintro e w' ⟨rfl, rfl⟩; rw [HY.out]
      go_wp2_with fail
      refine (l1In_any _ _ _ _).mono ?_; rintro e w' ⟨rfl, rfl⟩; rw [HX.out]
      go_wp2_with fail
      go_ret
      exact ⟨congrArg (fun b : UInt8 => Ending.returned (.int .u8 b.toNat)) hget2.out, rfl⟩
end Go.Proofs.YtoiaklnaecghnabGreatDoor
