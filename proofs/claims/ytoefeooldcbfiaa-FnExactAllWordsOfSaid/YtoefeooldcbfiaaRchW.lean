/- Whether a line is reached, on: the program's side, and the walks of CanReach, MovesBetween, CanFinish. -/
import Derived.Test.YtoefeooldcbfiaaRch
namespace Go.Proofs.Ytoefeooldcbfiaa
open Go.RowKit Go.Maps

theorem arrivalAt_no (wl vt : List UInt8) (wx : World) (hs : (str wl).size ≤ maxLen) (ht : (str vt).size ≤ maxLen) (hr : (reachB (str wl) && reachB (str vt)) = false) :
    Calls Try.prog 79 #[.string (str wl), .string (str vt)] wx fun e w' => e = .returned (.tuple #[.agg #[.int .i64 0, .int .i64 0], .bool false]) ∧ Below wx.heap.size wx w' := by
  cases hv : reachB (str vt)
  · exact arrivalAt_noV _ _ wx ht hv
  · rw [hv, Bool.and_true] at hr
    exact arrivalAt_noW wl vt wx hs hr hv

set_option maxRecDepth 100000 in
set_option maxHeartbeats 1000000 in
theorem movesBetween_no (wl vt : List UInt8) (w : World) (hs : (str wl).size ≤ maxLen) (ht : (str vt).size ≤ maxLen) (hr : (reachB (str wl) && reachB (str vt)) = false) :
    Calls Try.prog 56 #[.string (str wl), .string (str vt)] w fun e w' => e = .returned (.tuple #[.int .i64 0, .bool false]) ∧ Below w.heap.size w w' := by
  have HAT := Lib.hid (fun wx => arrivalAt_no wl vt wx hs ht hr)
  clear hr
  go_enter Try.func56, Try.ntmps56
  go_wp2_with fail
  refine (HAT.out _).mono ?_
  rintro e w1 ⟨rfl, hb1⟩
  go_wp2
  obtain ⟨W1, hW1⟩ : ∃ W1, W1 = w1.alloc (Obj.cells #[Value.int IntKind.i64 0, Value.int IntKind.i64 0] 64) := ⟨_, rfl⟩
  rw [← hW1]
  have c0 : W1.cell? ⟨w1.heap.size, 0, none⟩ = some (.int .i64 0) := by rw [hW1, World.cell?_alloc_new]; rfl
  have c1 : W1.cell? ⟨w1.heap.size, 1, none⟩ = some (.int .i64 0) := by rw [hW1, World.cell?_alloc_new]; rfl
  have HBX : Hid (Below w.heap.size w W1) := Lib.hid (by rw [hW1]; exact hb1.alloc hb1.size _)
  clear hW1
  go_region
  go_wp2
  go_ret2
  exact ⟨rfl, HBX.out.drew⟩
set_option maxRecDepth 100000 in
set_option maxHeartbeats 1000000 in
theorem movesBetween_yes (d : Nat) (wl vt : List UInt8) (w : World) (hr : reachB (str wl) = true) (hd : IsDep nxL wl d) (hd2 : d ≤ 60000) (hv : reachB (str vt) = true) :
    Calls Try.prog 56 #[.string (str wl), .string (str vt)] w fun e w' => ∃ a b, e = .returned (.tuple #[.int .i64 a, .bool b]) ∧ MbV wl vt d a b ∧ Below w.heap.size w w' := by
  have HAT := Lib.hid (fun wx => arrivalAt_yes d wl vt wx hr hd hd2 hv)
  have HC := Lib.hid (fun a b => @at_cases wl vt d a b hr)
  clear hr hd hv
  go_enter Try.func56, Try.ntmps56
  go_wp2_with fail
  refine (HAT.out _).mono ?_
  rintro e w1 ⟨a, b, rfl, hA, hb1⟩
  have HB := Lib.hid hb1
  clear hb1
  rcases HC.out a b hA with ⟨k, m, hk, hkv, rfl, rfl, hm1, hm2⟩ | ⟨hno, rfl, rfl⟩
  · have HK := Lib.hid hkv
    clear hkv hA
    have hm0 : (0 : Int) < (m : Int) := by omega
    go_wp2
    obtain ⟨W1, hW1⟩ : ∃ W1, W1 = w1.alloc (Obj.cells #[Value.int IntKind.i64 k, Value.int IntKind.i64 m] 64) := ⟨_, rfl⟩
    rw [← hW1]
    have c0 : W1.cell? ⟨w1.heap.size, 0, none⟩ = some (.int .i64 k) := by rw [hW1, World.cell?_alloc_new]; rfl
    have c1 : W1.cell? ⟨w1.heap.size, 1, none⟩ = some (.int .i64 m) := by rw [hW1, World.cell?_alloc_new]; rfl
    have HBX : Hid (Below w.heap.size w W1) := Lib.hid (by rw [hW1]; exact HB.out.alloc HB.out.size _)
    clear hW1
    go_region
    go_wp2
    go_ret2
    exact ⟨k, true, by simp; try omega, .inl ⟨rfl, k, hk, HK.out, rfl⟩, HBX.out.drew⟩
  · have HK := Lib.hid hno
    clear hno hA
    go_wp2
    obtain ⟨W1, hW1⟩ : ∃ W1, W1 = w1.alloc (Obj.cells #[Value.int IntKind.i64 0, Value.int IntKind.i64 0] 64) := ⟨_, rfl⟩
    rw [← hW1]
    have c0 : W1.cell? ⟨w1.heap.size, 0, none⟩ = some (.int .i64 0) := by rw [hW1, World.cell?_alloc_new]; rfl
    have c1 : W1.cell? ⟨w1.heap.size, 1, none⟩ = some (.int .i64 0) := by rw [hW1, World.cell?_alloc_new]; rfl
    have HBX : Hid (Below w.heap.size w W1) := Lib.hid (by rw [hW1]; exact HB.out.alloc HB.out.size _)
    clear hW1
    go_region
    go_wp2
    go_ret2
    exact ⟨0, false, by simp, .inr ⟨rfl, rfl, HK.out⟩, HBX.out.drew⟩

end Go.Proofs.Ytoefeooldcbfiaa
