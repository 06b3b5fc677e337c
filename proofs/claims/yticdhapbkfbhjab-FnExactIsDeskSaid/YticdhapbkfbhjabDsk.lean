/- The walks of FirstDesk's and IsDesk's laws. -/
import Derived.Test.YticdhapbkfbhjabSpecA
import Derived.Test.YticdhapbkfbhjabMoveC
import Derived.Laws.StructEq
namespace Go.Proofs.Yticdhapbkfbhjab
open Go.RowKit

/-- The first desk's texts. -/
def dk1 : ByteArray := str [84, 84, 46, 70, 70]
def dk2 : ByteArray := str [70, 70, 46, 84, 84]
set_option maxHeartbeats 400000 in
theorem sFirstDesk_any (w : World) : Calls Try.prog 10 #[] w fun e w' => e = .returned (.agg #[.string dk1, .string dk2]) ∧ Below w.heap.size w w' := by
  go_enter Try.func10, Try.ntmps10
  go_wp2
  refine bodyPost_ret (v := .agg #[.string dk1, .string dk2]) (by simp [results, Try.results10, go_sem]; exact ⟨rfl, rfl⟩) rfl ⟨rfl, ?_⟩
  first | exact Below.refl _ _ | exact (Below.refl _ _).alloc (Nat.le_refl _) _ | exact ((Below.refl _ _).alloc (Nat.le_refl _) _).alloc (by simp) _
set_option maxHeartbeats 400000 in
theorem firstDesk_any (w : World) : Calls Try.prog 11 #[] w fun e w' => e = .returned (.agg #[.string dk1, .string dk2]) ∧ Below w.heap.size w w' := by
  go_enter Try.func11, Try.ntmps11
  go_wp2
  refine bodyPost_ret (v := .agg #[.string dk1, .string dk2]) (by simp [results, Try.results11, go_sem]; exact ⟨rfl, rfl⟩) rfl ⟨rfl, ?_⟩
  first | exact Below.refl _ _ | exact (Below.refl _ _).alloc (Nat.le_refl _) _ | exact ((Below.refl _ _).alloc (Nat.le_refl _) _).alloc (by simp) _
set_option maxHeartbeats 1000000 in
theorem eqDesk_same (a b : ByteArray) (w : World) : Calls Try.prog 12 #[.agg #[.string a, .string b], .agg #[.string a, .string b]] w fun e w' => e = .returned (.bool true) ∧ Below w.heap.size w w' := by
  go_enter Try.func12, Try.ntmps12
  go_wp2
  go_ret
  exact ⟨rfl, ((Below.refl _ _).alloc (Nat.le_refl _) _).alloc (by simp) _⟩
set_option maxHeartbeats 400000 in
theorem walk_FnExactFirstDesk (w : World) : Calls Try.prog 4 #[] w fun e w' => e = .returned (.bool true) ∧ Below w.heap.size w w' := by
  go_enter Try.func4, Try.ntmps4
  go_wp2_with fail
  refine (sFirstDesk_any _).mono ?_
  rintro e w1 ⟨rfl, hb1⟩
  obtain ⟨W1, hW1⟩ : ∃ W1, W1 = w1.alloc (Obj.cells #[.string dk1, .string dk2] 26) := ⟨_, rfl⟩
  have HB1 : Hid (Below w.heap.size w W1) := Lib.hid (by rw [hW1]; exact hb1.alloc hb1.size _)
  have k0 : W1.cell? ⟨w1.heap.size, 0, none⟩ = some (.string dk1) := by rw [hW1, World.cell?_alloc_new]; rfl
  have k1 : W1.cell? ⟨w1.heap.size, 1, none⟩ = some (.string dk2) := by rw [hW1, World.cell?_alloc_new]; rfl
  have z1 : w1.heap.size < W1.heap.size := by rw [hW1]; simp
  clear hb1
  go_wp2_with fail
  rw [← hW1]
  clear hW1
  refine (firstDesk_any _).mono ?_
  rintro e w2 ⟨rfl, hb2⟩
  have HB2 := Lib.hid (HB1.out.trans ((hb2.alloc hb2.size (Obj.cells #[.string dk1, .string dk2] 26)).mono HB1.out.size))
  have d0 := ((bcell hb2).1 _ 0 z1).trans k0
  have d1 := ((bcell hb2).1 _ 1 z1).trans k1
  have z2 : w1.heap.size < w2.heap.size := Nat.lt_of_lt_of_le z1 hb2.size
  have z3 : w1.heap.size ≠ w2.heap.size := by omega
  clear hb2 k0 k1 z1
  go_wp2_with fail
  refine (eqDesk_same _ _ _).mono ?_
  rintro e w3 ⟨rfl, hb3⟩
  have HB3 := Lib.hid (HB2.out.trans (hb3.mono HB2.out.size))
  clear hb3
  go_wp2
  go_ret
  exact ⟨rfl, HB3.out⟩
/-- What szDesk answers of two texts. -/
def szD (n m : Nat) : Int := if 1048576 < n + m then -1 else 1048576 - (n : Int) - (m : Int)
set_option maxHeartbeats 400000 in
theorem szDesk_any (a b : ByteArray) (w : World) (ha : a.size ≤ maxLen) (hb : b.size ≤ maxLen) :
    Calls Try.prog 13 #[.agg #[.string a, .string b], .int .i64 1048576] w fun e w' => e = .returned (.int .i64 (szD a.size b.size)) ∧ Below w.heap.size w w' := by
  unfold maxLen at ha hb
  unfold szD
  by_cases h1 : 1048576 < a.size
  · have d1 : (1048576 : Int) - (a.size : Int) < 0 := by omega
    rw [if_pos (by omega)]
    go_enter Try.func13, Try.ntmps13
    go_wp2
    go_ret
    exact ⟨rfl, (Below.refl _ _).alloc (Nat.le_refl _) _⟩
  · have d1 : ¬ (1048576 : Int) - (a.size : Int) < 0 := by omega
    by_cases h2 : 1048576 < a.size + b.size
    · have d2 : (1048576 : Int) - (a.size : Int) - (b.size : Int) < 0 := by omega
      rw [if_pos h2]
      go_enter Try.func13, Try.ntmps13
      go_wp2
      go_ret
      exact ⟨rfl, (Below.refl _ _).alloc (Nat.le_refl _) _⟩
    · have d2 : ¬ (1048576 : Int) - (a.size : Int) - (b.size : Int) < 0 := by omega
      rw [if_neg h2]
      go_enter Try.func13, Try.ntmps13
      go_wp2
      go_ret
      exact ⟨rfl, (Below.refl _ _).alloc (Nat.le_refl _) _⟩
set_option maxHeartbeats 400000 in
theorem toDesk_any (a b : ByteArray) (w : World) :
    Calls Try.prog 15 #[.agg #[.string a, .string b]] w fun e w' => e = .returned (.agg #[.string a, .string b]) ∧ Below w.heap.size w w' := by
  go_enter Try.func15, Try.ntmps15
  go_wp2
  refine bodyPost_ret (v := .agg #[.string a, .string b]) (by simp [results, Try.results15, go_sem]) rfl ⟨rfl, ?_⟩
  exact (((Below.refl _ _).alloc (Nat.le_refl _) _).alloc (by simp) _).alloc (by simp; omega) _
theorem desk_and (x y : Bool) : (if x then Value.bool y else .bool false) = .bool (x && y) := by cases x <;> rfl
set_option maxHeartbeats 1000000 in
theorem isDesk_any (a b : ByteArray) (w : World) (ha : a.size ≤ maxLen) (hb : b.size ≤ maxLen) :
    Calls Try.prog 16 #[.agg #[.string a, .string b]] w fun e w' => e = .returned (.bool (goodL a && goodL b)) ∧ Below w.heap.size w w' := by
  obtain ⟨W0, hW0⟩ : ∃ W0, W0 = w.alloc (Obj.cells #[.string a, .string b] 26) := ⟨_, rfl⟩
  have hb0 : Below w.heap.size w W0 := by rw [hW0]; exact (Below.refl _ _).alloc (Nat.le_refl _) _
  have k0 : W0.cell? ⟨w.heap.size, 0, none⟩ = some (.string a) := by rw [hW0, World.cell?_alloc_new]; rfl
  have k1 : W0.cell? ⟨w.heap.size, 1, none⟩ = some (.string b) := by rw [hW0, World.cell?_alloc_new]; rfl
  have HB := Lib.hid hb0
  clear hb0
  cases hx : goodL a
  · have hX := Lib.hid hx
    clear hx
    go_enter Try.func16, Try.ntmps16
    go_wp2_with fail
    rw [← hW0]
    clear hW0
    go_wp2_with fail
    refine (isLine_any _ _ ha).mono ?_; rintro e w' ⟨rfl, rfl⟩; rw [hX.out]
    go_wp2_with fail
    go_ret
    exact ⟨rfl, HB.out⟩
  · have hX := Lib.hid hx
    clear hx
    go_enter Try.func16, Try.ntmps16
    go_wp2_with fail
    rw [← hW0]
    clear hW0
    go_wp2_with fail
    refine (isLine_any _ _ ha).mono ?_; rintro e w' ⟨rfl, rfl⟩; rw [hX.out]
    go_wp2_with fail
    refine (isLine_any _ _ hb).mono ?_; rintro e w' ⟨rfl, rfl⟩
    go_wp2_with fail
    go_ret
    exact ⟨rfl, HB.out⟩
set_option maxHeartbeats 1000000 in
theorem coGood_any (a b : ByteArray) (w : World) (ha : a.size ≤ maxLen) (hb : b.size ≤ maxLen) :
    Calls Try.prog 61 #[.agg #[.string a, .string b]] w fun e w' => e = .returned (.bool (goodL a && goodL b)) ∧ Below w.heap.size w w' := by
  obtain ⟨W0, hW0⟩ : ∃ W0, W0 = w.alloc (Obj.cells #[.string a, .string b] 26) := ⟨_, rfl⟩
  have hb0 : Below w.heap.size w W0 := by rw [hW0]; exact (Below.refl _ _).alloc (Nat.le_refl _) _
  have k0 : W0.cell? ⟨w.heap.size, 0, none⟩ = some (.string a) := by rw [hW0, World.cell?_alloc_new]; rfl
  have k1 : W0.cell? ⟨w.heap.size, 1, none⟩ = some (.string b) := by rw [hW0, World.cell?_alloc_new]; rfl
  have HB := Lib.hid hb0
  clear hb0
  cases hx : goodL a
  · have hX := Lib.hid hx
    clear hx
    go_enter Try.func61, Try.ntmps61
    go_wp2_with fail
    rw [← hW0]
    clear hW0
    go_wp2_with fail
    refine (liGood_any _ _ ha).mono ?_; rintro e w' ⟨rfl, rfl⟩; rw [hX.out]
    go_wp2_with fail
    go_ret
    exact ⟨rfl, HB.out⟩
  · have hX := Lib.hid hx
    clear hx
    go_enter Try.func61, Try.ntmps61
    go_wp2_with fail
    rw [← hW0]
    clear hW0
    go_wp2_with fail
    refine (liGood_any _ _ ha).mono ?_; rintro e w' ⟨rfl, rfl⟩; rw [hX.out]
    go_wp2_with fail
    refine (liGood_any _ _ hb).mono ?_; rintro e w' ⟨rfl, rfl⟩
    go_wp2_with fail
    go_ret
    exact ⟨rfl, HB.out⟩
set_option maxHeartbeats 1000000 in
theorem sIsDesk_any (a b : ByteArray) (w : World) (ha : a.size ≤ maxLen) (hb : b.size ≤ maxLen) :
    Calls Try.prog 14 #[.agg #[.string a, .string b]] w fun e w' => e = .returned (.bool (goodL a && goodL b)) ∧ Below w.heap.size w w' := by
  have HG := Lib.hid (fun wx => coGood_any a b wx ha hb)
  generalize (goodL a && goodL b) = x at HG ⊢
  go_enter Try.func14, Try.ntmps14
  go_wp2_with fail
  refine (HG.out _).mono ?_
  rintro e w1 ⟨rfl, hb1⟩
  have HB1 := Lib.hid ((((Below.refl w.heap.size w).alloc (Nat.le_refl _) (Obj.cells #[.string a, .string b] 26))).trans (hb1.mono (by simp)))
  clear hb1
  go_wp2_with fail
  go_ret
  exact ⟨rfl, HB1.out⟩
set_option maxRecDepth 100000 in
set_option maxHeartbeats 2000000 in
theorem walk_FnExactIsDesk (a : ByteArray) (ha : a.size ≤ maxLen) (b : ByteArray) (hb : b.size ≤ maxLen) (w : World) :
    Calls Try.prog 5 #[.agg #[.string a, .string b]] w fun e w' => e = .returned (.bool true) ∧ Below w.heap.size w w' := by
  have HZ := Lib.hid (fun wx => szDesk_any a b wx ha hb)
  have HS := Lib.hid (fun wx => sIsDesk_any a b wx ha hb)
  have HM := Lib.hid (fun wx => isDesk_any a b wx ha hb)
  generalize (goodL a && goodL b) = x at HS HM
  obtain ⟨W0, hW0⟩ : ∃ W0, W0 = w.alloc (Obj.cells #[.string a, .string b] 30) := ⟨_, rfl⟩
  have hb0 : Below w.heap.size w W0 := by rw [hW0]; exact (Below.refl _ _).alloc (Nat.le_refl _) _
  have k0 : W0.cell? ⟨w.heap.size, 0, none⟩ = some (.string a) := by rw [hW0, World.cell?_alloc_new]; rfl
  have k1 : W0.cell? ⟨w.heap.size, 1, none⟩ = some (.string b) := by rw [hW0, World.cell?_alloc_new]; rfl
  have hz0 : w.heap.size < W0.heap.size := by rw [hW0]; simp
  have HB0 := Lib.hid hb0
  clear hb0
  by_cases hneg : szD a.size b.size < 0
  · go_enter Try.func5, Try.ntmps5
    go_wp2_with fail
    rw [← hW0]
    clear hW0
    refine (HZ.out _).mono ?_
    rintro e w1 ⟨rfl, hb1⟩
    have HB1 := Lib.hid (HB0.out.trans (hb1.mono HB0.out.size))
    generalize szD a.size b.size = z at hneg ⊢
    clear hb1
    go_wp2_with fail
    go_ret
    exact ⟨rfl, HB1.out⟩
  · go_enter Try.func5, Try.ntmps5
    go_wp2_with fail
    rw [← hW0]
    clear hW0
    refine (HZ.out _).mono ?_
    rintro e w1 ⟨rfl, hb1⟩
    have HB1 := Lib.hid (HB0.out.trans (hb1.mono HB0.out.size))
    have d0 := ((bcell hb1).1 _ 0 hz0).trans k0
    have d1 := ((bcell hb1).1 _ 1 hz0).trans k1
    have hz1 := Nat.lt_of_lt_of_le hz0 hb1.size
    generalize szD a.size b.size = z at hneg ⊢
    clear hb1 k0 k1
    go_wp2_with fail
    refine (toDesk_any _ _ _).mono ?_
    rintro e w2 ⟨rfl, hb2⟩
    have HB2 := Lib.hid (HB1.out.trans (hb2.mono HB1.out.size))
    have e0 := ((bcell hb2).1 _ 0 hz1).trans d0
    have e1 := ((bcell hb2).1 _ 1 hz1).trans d1
    have hz2 := Nat.lt_of_lt_of_le hz1 hb2.size
    clear hb2 d0 d1
    go_wp2_with fail
    refine (HS.out _).mono ?_
    rintro e w3 ⟨rfl, hb3⟩
    have HB3 := Lib.hid (HB2.out.trans (hb3.mono HB2.out.size))
    have g0 := ((bcell hb3).1 _ 0 hz2).trans e0
    have g1 := ((bcell hb3).1 _ 1 hz2).trans e1
    have hz3 := Nat.lt_of_lt_of_le hz2 hb3.size
    clear hb3 e0 e1
    go_wp2_with fail
    refine (toDesk_any _ _ _).mono ?_
    rintro e w4 ⟨rfl, hb4⟩
    have HB4 := Lib.hid (HB3.out.trans (hb4.mono HB3.out.size))
    clear hb4 g0 g1
    go_wp2_with fail
    refine (HM.out _).mono ?_
    rintro e w5 ⟨rfl, hb5⟩
    have HB5 := Lib.hid (HB4.out.trans (hb5.mono HB4.out.size))
    clear hb5
    go_wp2
    go_ret
    exact ⟨rfl, HB5.out⟩
end Go.Proofs.Yticdhapbkfbhjab
