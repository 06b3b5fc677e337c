/- Contracts: rings as texts: what a ring is, turned rings, mirrored ones. -/
import Derived.Test.YtfjjdelmfohaeaaDoorCiA
import Derived.Test.YtfjjdelmfohaeaaDoorImpB
import Derived.Test.YtfjjdelmfohaeaaDoorSpecA
namespace Go.Proofs.YtfjjdelmfohaeaaDoor
open Go.RowKit

theorem ring_in (s : ByteArray) (h : goodL s = true) : ringB s = inR (s.size : Int) 3 9 := by
  unfold ringB inR
  rw [h, Bool.true_and]
  congr 1 <;> (rw [decide_eq_decide]; omega)
theorem ring_no {s : ByteArray} (h : goodL s = false) : ringB s = false := by unfold ringB; rw [h]; rfl

set_option maxHeartbeats 400000 in
theorem ciGood_any (s : ByteArray) (w : World) (hs : s.size ≤ maxLen) :
    Calls Tryd.prog 45 #[.string s] w fun e w' => e = .returned (.bool (ringB s)) ∧ w = w' := by
  cases hc : goodL s
  · have hR := Lib.hid (ring_no hc)
    have hC := Lib.hid hc
    clear hc
    go_enter Tryd.func45, Tryd.ntmps45
    go_wp2_with (go_at_call 68; refine (liGood_any _ _ hs).mono ?_; rintro e w' ⟨rfl, rfl⟩; rw [hC.out])
    go_ret
    exact ⟨congrArg (fun b => Ending.returned (.bool b)) hR.out.symm, rfl⟩
  · have hR := Lib.hid (ring_in s hc)
    have hC := Lib.hid hc
    clear hc
    go_enter Tryd.func45, Tryd.ntmps45
    go_wp2_with fail
    refine (liGood_any _ _ hs).mono ?_; rintro e w' ⟨rfl, rfl⟩; rw [hC.out]
    go_wp2_with fail
    refine (l1In_any _ _ _ _).mono ?_; rintro e w' ⟨rfl, rfl⟩
    go_wp2
    go_ret
    exact ⟨congrArg (fun b => Ending.returned (.bool b)) hR.out.symm, rfl⟩

set_option maxHeartbeats 400000 in
theorem isRing_any (s : ByteArray) (w : World) (hs : s.size ≤ maxLen) :
    Calls Tryd.prog 47 #[.string s] w fun e w' => e = .returned (.bool (ringB s)) ∧ w = w' := by
  cases hc : goodL s
  · have hR := Lib.hid (ring_no hc)
    have hC := Lib.hid hc
    clear hc
    go_enter Tryd.func47, Tryd.ntmps47
    go_wp2_with (go_at_call 70; refine (isLine_any _ _ hs).mono ?_; rintro e w' ⟨rfl, rfl⟩; rw [hC.out])
    go_ret
    exact ⟨congrArg (fun b => Ending.returned (.bool b)) hR.out.symm, rfl⟩
  · have hR := Lib.hid (ring_in s hc)
    have hC := Lib.hid hc
    clear hc
    by_cases h3 : (3 : Int) ≤ (s.size : Int)
    · have hR2 : Hid (ringB s = decide ((s.size : Int) ≤ 9)) := Lib.hid (by rw [hR.out]; unfold inR; simp [h3])
      go_enter Tryd.func47, Tryd.ntmps47
      go_wp2_with (go_at_call 70; refine (isLine_any _ _ hs).mono ?_; rintro e w' ⟨rfl, rfl⟩; rw [hC.out])
      go_ret
      exact ⟨congrArg (fun b => Ending.returned (.bool b)) hR2.out.symm, rfl⟩
    · have hR2 : Hid (ringB s = false) := Lib.hid (by rw [hR.out]; unfold inR; simp [h3])
      go_enter Tryd.func47, Tryd.ntmps47
      go_wp2_with (go_at_call 70; refine (isLine_any _ _ hs).mono ?_; rintro e w' ⟨rfl, rfl⟩; rw [hC.out])
      go_ret
      exact ⟨congrArg (fun b => Ending.returned (.bool b)) hR2.out.symm, rfl⟩

/-- A ring by so many cells farther on. -/
def turnB (s : ByteArray) (k : Nat) : ByteArray := s.extract (s.size - k) s.size ++ s.extract 0 (s.size - k)
def turnL (l : List UInt8) (k : Nat) : List UInt8 := l.drop (l.length - k) ++ l.take (l.length - k)
theorem byt_app (a b : ByteArray) : byt (a ++ b) = byt a ++ byt b := by
  have : a ++ b = str (byt a ++ byt b) := by rw [← str_app, str_byt, str_byt]
  rw [this, byt_str]
theorem byt_inj {a b : ByteArray} (h : byt a = byt b) : a = b := by rw [← str_byt a, h, str_byt]
theorem byt_extract (s : ByteArray) (i j : Nat) : byt (s.extract i j) = ((byt s).take j).drop i := by
  unfold byt
  rw [ByteArray.data_extract]
  simp [List.take_drop]
  by_cases h : i ≤ j
  · rw [show i + (j - i) = j by omega]
  · rw [List.drop_of_length_le (by simp; omega), List.drop_of_length_le (by simp; omega)]
theorem turnB_byt (s : ByteArray) (k : Nat) : byt (turnB s k) = turnL (byt s) k := by
  unfold turnB turnL
  rw [byt_app, byt_extract, byt_extract, byt_len]
  simp [take_all]
  
theorem turnB_str (s : ByteArray) (k : Nat) : turnB s k = str (turnL (byt s) k) := by rw [← turnB_byt, str_byt]
theorem turnL_len (l : List UInt8) (k : Nat) : (turnL l k).length = l.length := by simp [turnL]

set_option maxHeartbeats 400000 in
theorem ciTurn_any (s : ByteArray) (k : Nat) (w : World) (hk : k ≤ s.size) (hs : s.size ≤ 1000) :
    Calls Tryd.prog 112 #[.string s, .int .i64 k] w fun e w' => e = .returned (.string (turnB s k)) ∧ Below w.heap.size w w' := by
  have e1 : ((s.size : Int) - (k : Int)).toNat = s.size - k := by omega
  have i1 : (0 : Int) ≤ (s.size : Int) - (k : Int) := by omega
  have i2 : (s.size : Int) - (k : Int) ≤ (s.size : Int) := by omega
  go_enter Tryd.func112, Tryd.ntmps112
  go_wp2
  go_region
  go_wp2
  go_ret
  exact ⟨rfl, (Below.refl _ _).drew⟩

/-- The answer on a turned ring. -/
def turnV (s : ByteArray) (k : Int) : Value := strOr (ringB s && inR k 0 (s.size - 1)) (turnL (byt s) k.toNat)

set_option maxHeartbeats 400000 in
theorem turn_any (s : ByteArray) (k : Int) (w : World) (hs : s.size ≤ maxLen) :
    Calls Tryd.prog 115 #[.string s, .int .i64 k] w fun e w' => e = .returned (turnV s k) ∧ Below w.heap.size w w' := by
  cases hc : ringB s
  · have hR : Hid (turnV s k = .tuple #[.string (str []), .bool false]) := Lib.hid (by unfold turnV; rw [hc]; rfl)
    have hC := Lib.hid hc
    clear hc
    go_enter Tryd.func115, Tryd.ntmps115
    go_wp2_with (go_at_call 47; refine (isRing_any _ _ hs).mono ?_; rintro e w' ⟨rfl, rfl⟩; rw [hC.out])
    go_ret2
    exact ⟨congrArg Ending.returned hR.out.symm, Below.refl _ _⟩
  · obtain ⟨_, _⟩ := ring_sz hc
    have hC := Lib.hid hc
    have no : inR k 0 (s.size - 1) = false → Hid (turnV s k = .tuple #[.string (str []), .bool false]) := fun hk => Lib.hid (by unfold turnV; rw [hc, hk]; rfl)
    by_cases h0 : k < 0
    · have hR := no (by simp [inR]; omega)
      clear hc no
      go_enter Tryd.func115, Tryd.ntmps115
      go_wp2_with (go_at_call 47; refine (isRing_any _ _ hs).mono ?_; rintro e w' ⟨rfl, rfl⟩; rw [hC.out])
      go_ret2
      exact ⟨congrArg Ending.returned hR.out.symm, Below.refl _ _⟩
    · by_cases h1 : (s.size : Int) ≤ k
      · have hR := no (by simp [inR]; omega)
        clear hc no
        go_enter Tryd.func115, Tryd.ntmps115
        go_wp2_with (go_at_call 47; refine (isRing_any _ _ hs).mono ?_; rintro e w' ⟨rfl, rfl⟩; rw [hC.out])
        go_ret2
        exact ⟨congrArg Ending.returned hR.out.symm, Below.refl _ _⟩
      · obtain ⟨a, rfl⟩ := Int.eq_ofNat_of_zero_le (Int.not_lt.1 h0)
        have hR : Hid (turnV s a = .tuple #[.string (turnB s a), .bool true]) := Lib.hid (by
          unfold turnV
          rw [hc, turnB_str, show inR (a : Int) 0 (s.size - 1) = true by simp [inR]; omega]
          rfl)
        have e1 : ((s.size : Int) - (a : Int)).toNat = s.size - a := by omega
        have i1 : (0 : Int) ≤ (s.size : Int) - (a : Int) := by omega
        have i2 : (s.size : Int) - (a : Int) ≤ (s.size : Int) := by omega
        clear hc no
        go_enter Tryd.func115, Tryd.ntmps115
        go_wp2_with (go_at_call 47; refine (isRing_any _ _ hs).mono ?_; rintro e w' ⟨rfl, rfl⟩; rw [hC.out])
        go_region
        go_wp2
        go_ret2
        exact ⟨congrArg Ending.returned hR.out.symm, (Below.refl _ _).drew⟩

/-- The first of the rings turned by less than so many cells. -/
def leastTo (l : List UInt8) : Nat → List UInt8
  | 0 => l
  | k + 1 => if turnL l k < leastTo l k then turnL l k else leastTo l k
theorem leastTo_len (l : List UInt8) (k : Nat) : (leastTo l k).length = l.length := by
  induction k with
  | zero => rfl
  | succ k ih =>
    unfold leastTo
    split
    · exact turnL_len l k
    · exact ih
def leastL (l : List UInt8) : List UInt8 := leastTo l l.length
end Go.Proofs.YtfjjdelmfohaeaaDoor
