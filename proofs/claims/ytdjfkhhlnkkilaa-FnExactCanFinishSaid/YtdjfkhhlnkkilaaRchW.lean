/- Whether a line is reached, on: the program's side, and the walks of CanReach, MovesBetween, CanFinish. -/
import Derived.Test.YtdjfkhhlnkkilaaRch
namespace Go.Proofs.Ytdjfkhhlnkkilaa
open Go.RowKit Go.Maps

theorem arrivalAt_no (wl vt : List UInt8) (wx : World) (hs : (str wl).size ≤ maxLen) (ht : (str vt).size ≤ maxLen) (hr : (reachB (str wl) && reachB (str vt)) = false) :
    Calls Try.prog 57 #[.string (str wl), .string (str vt)] wx fun e w' => e = .returned (.tuple #[.agg #[.int .i64 0, .int .i64 0], .bool false]) ∧ Below wx.heap.size wx w' := by
  cases hv : reachB (str vt)
  · exact arrivalAt_noV _ _ wx ht hv
  · rw [hv, Bool.and_true] at hr
    exact arrivalAt_noW wl vt wx hs hr hv

set_option maxRecDepth 100000 in
set_option maxHeartbeats 1000000 in
theorem canReach_no (wl vt : List UInt8) (w : World) (hs : (str wl).size ≤ maxLen) (ht : (str vt).size ≤ maxLen) (hr : (reachB (str wl) && reachB (str vt)) = false) :
    Calls Try.prog 25 #[.string (str wl), .string (str vt)] w fun e w' => e = .returned (.tuple #[.bool false, .bool false]) ∧ Below w.heap.size w w' := by
  have HAT := Lib.hid (fun wx => arrivalAt_no wl vt wx hs ht hr)
  clear hr
  go_enter Try.func25, Try.ntmps25
  go_wp2_with fail
  refine (HAT.out _).mono ?_
  rintro e w1 ⟨rfl, hb1⟩
  go_wp2
  go_ret2
  exact ⟨rfl, hb1.alloc hb1.size _⟩
set_option maxRecDepth 100000 in
set_option maxHeartbeats 1000000 in
theorem movesBetween_no (wl vt : List UInt8) (w : World) (hs : (str wl).size ≤ maxLen) (ht : (str vt).size ≤ maxLen) (hr : (reachB (str wl) && reachB (str vt)) = false) :
    Calls Try.prog 27 #[.string (str wl), .string (str vt)] w fun e w' => e = .returned (.tuple #[.int .i64 0, .bool false]) ∧ Below w.heap.size w w' := by
  have HAT := Lib.hid (fun wx => arrivalAt_no wl vt wx hs ht hr)
  clear hr
  go_enter Try.func27, Try.ntmps27
  go_wp2_with fail
  refine (HAT.out _).mono ?_
  rintro e w1 ⟨rfl, hb1⟩
  go_wp2
  obtain ⟨W1, hW1⟩ : ∃ W1, W1 = w1.alloc (Obj.cells #[Value.int IntKind.i64 0, Value.int IntKind.i64 0] 53) := ⟨_, rfl⟩
  rw [← hW1]
  have c0 : W1.cell? ⟨w1.heap.size, 0, none⟩ = some (.int .i64 0) := by rw [hW1, World.cell?_alloc_new]; rfl
  have c1 : W1.cell? ⟨w1.heap.size, 1, none⟩ = some (.int .i64 0) := by rw [hW1, World.cell?_alloc_new]; rfl
  have HBX : Hid (Below w.heap.size w W1) := Lib.hid (by rw [hW1]; exact hb1.alloc hb1.size _)
  clear hW1
  go_region
  go_wp2
  go_ret2
  exact ⟨rfl, HBX.out.drew⟩
set_option maxRecDepth 100000 in
set_option maxHeartbeats 1000000 in
theorem canReach_yes (d : Nat) (wl vt : List UInt8) (w : World) (hr : reachB (str wl) = true) (hd : IsDep nxL wl d) (hd2 : d ≤ 60000) (hv : reachB (str vt) = true) :
    Calls Try.prog 25 #[.string (str wl), .string (str vt)] w fun e w' => ∃ b, e = .returned (.tuple #[.bool b, .bool true]) ∧ CrV wl vt d b ∧ Below w.heap.size w w' := by
  have HAT := Lib.hid (fun wx => arrivalAt_yes d wl vt wx hr hd hd2 hv)
  have HC := Lib.hid (fun a b => @at_cases wl vt d a b hr)
  clear hr hd hv
  go_enter Try.func25, Try.ntmps25
  go_wp2_with fail
  refine (HAT.out _).mono ?_
  rintro e w1 ⟨a, b, rfl, hA, hb1⟩
  have HB := Lib.hid hb1
  clear hb1
  rcases HC.out a b hA with ⟨k, m, hk, hkv, rfl, rfl, hm1, hm2⟩ | ⟨hno, rfl, rfl⟩
  · have HK := Lib.hid hkv
    clear hkv hA
    go_wp2
    go_ret2
    exact ⟨true, by simp; omega, .inl ⟨rfl, k, hk, HK.out⟩, HB.out.alloc HB.out.size _⟩
  · have HK := Lib.hid hno
    clear hno hA
    go_wp2
    go_ret2
    exact ⟨false, by simp, .inr ⟨rfl, HK.out⟩, HB.out.alloc HB.out.size _⟩
set_option maxRecDepth 100000 in
set_option maxHeartbeats 1000000 in
theorem movesBetween_yes (d : Nat) (wl vt : List UInt8) (w : World) (hr : reachB (str wl) = true) (hd : IsDep nxL wl d) (hd2 : d ≤ 60000) (hv : reachB (str vt) = true) :
    Calls Try.prog 27 #[.string (str wl), .string (str vt)] w fun e w' => ∃ a b, e = .returned (.tuple #[.int .i64 a, .bool b]) ∧ MbV wl vt d a b ∧ Below w.heap.size w w' := by
  have HAT := Lib.hid (fun wx => arrivalAt_yes d wl vt wx hr hd hd2 hv)
  have HC := Lib.hid (fun a b => @at_cases wl vt d a b hr)
  clear hr hd hv
  go_enter Try.func27, Try.ntmps27
  go_wp2_with fail
  refine (HAT.out _).mono ?_
  rintro e w1 ⟨a, b, rfl, hA, hb1⟩
  have HB := Lib.hid hb1
  clear hb1
  rcases HC.out a b hA with ⟨k, m, hk, hkv, rfl, rfl, hm1, hm2⟩ | ⟨hno, rfl, rfl⟩
  · have HK := Lib.hid hkv
    clear hkv hA
    have hm0 : (0 : Int) < (m : Int) := by omega
    go_wp2
    obtain ⟨W1, hW1⟩ : ∃ W1, W1 = w1.alloc (Obj.cells #[Value.int IntKind.i64 k, Value.int IntKind.i64 m] 53) := ⟨_, rfl⟩
    rw [← hW1]
    have c0 : W1.cell? ⟨w1.heap.size, 0, none⟩ = some (.int .i64 k) := by rw [hW1, World.cell?_alloc_new]; rfl
    have c1 : W1.cell? ⟨w1.heap.size, 1, none⟩ = some (.int .i64 m) := by rw [hW1, World.cell?_alloc_new]; rfl
    have HBX : Hid (Below w.heap.size w W1) := Lib.hid (by rw [hW1]; exact HB.out.alloc HB.out.size _)
    clear hW1
    go_region
    go_wp2
    go_ret2
    exact ⟨k, true, by simp; try omega, .inl ⟨rfl, k, hk, HK.out, rfl⟩, HBX.out.drew⟩
  · have HK := Lib.hid hno
    clear hno hA
    go_wp2
    obtain ⟨W1, hW1⟩ : ∃ W1, W1 = w1.alloc (Obj.cells #[Value.int IntKind.i64 0, Value.int IntKind.i64 0] 53) := ⟨_, rfl⟩
    rw [← hW1]
    have c0 : W1.cell? ⟨w1.heap.size, 0, none⟩ = some (.int .i64 0) := by rw [hW1, World.cell?_alloc_new]; rfl
    have c1 : W1.cell? ⟨w1.heap.size, 1, none⟩ = some (.int .i64 0) := by rw [hW1, World.cell?_alloc_new]; rfl
    have HBX : Hid (Below w.heap.size w W1) := Lib.hid (by rw [hW1]; exact HB.out.alloc HB.out.size _)
    clear hW1
    go_region
    go_wp2
    go_ret2
    exact ⟨0, false, by simp, .inr ⟨rfl, rfl, HK.out⟩, HBX.out.drew⟩

set_option maxHeartbeats 1000000 in
theorem walk_FnExactCanReach (s : ByteArray) (hs : s.size ≤ maxLen) (t : ByteArray) (ht : t.size ≤ maxLen) (w : World) :
    Calls Try.prog 5 #[.string s, .string t] w fun e w' => e = .returned (.bool true) ∧ Below w.heap.size w w' := by
  obtain ⟨wl, hwl⟩ : ∃ wl, s = str wl := ⟨byt s, (str_byt s).symm⟩
  subst hwl
  obtain ⟨vt, hvt⟩ : ∃ vt, t = str vt := ⟨byt t, (str_byt t).symm⟩
  subst hvt
  by_cases hbig : (1048576 : Int) < ((str wl).size : Int)
  · go_enter Try.func5, Try.ntmps5
    go_wp2
    go_ret
    exact ⟨rfl, Below.refl _ _⟩
  · by_cases hbig2 : (1048576 : Int) < ((str vt).size : Int)
    · go_enter Try.func5, Try.ntmps5
      go_wp2
      go_ret
      exact ⟨rfl, Below.refl _ _⟩
    · cases hr : (reachB (str wl) && reachB (str vt))
      · have hR := Lib.hid hr
        clear hr
        go_enter Try.func5, Try.ntmps5
        go_wp2_with fail
        refine (sCanReach_no _ _ _ hs ht hR.out).mono ?_
        rintro e w1 ⟨rfl, hb1⟩
        go_wp2_with fail
        refine (canReach_no _ _ _ hs ht hR.out).mono ?_
        rintro e w2 ⟨rfl, hb2⟩
        go_wp2
        go_ret
        exact ⟨rfl, hb1.trans (hb2.mono hb1.size)⟩
      · rw [Bool.and_eq_true] at hr
        have hR := Lib.hid hr.1
        have hV := Lib.hid hr.2
        obtain ⟨d, hd, hd2⟩ := dep_of hr.1
        have HD := Lib.hid hd
        clear hr hd
        go_enter Try.func5, Try.ntmps5
        go_wp2_with fail
        refine (sCanReach_yes d _ _ _ hs ht hR.out HD.out hd2 hV.out).mono ?_
        rintro e w1 ⟨b, rfl, hb, hb1⟩
        have HBB := Lib.hid hb
        clear hb
        go_wp2_with fail
        refine (canReach_yes d _ _ _ hR.out HD.out hd2 hV.out).mono ?_
        rintro e w2 ⟨b2, rfl, hA, hb2⟩
        have he : b2 = b := hA.one HBB.out
        subst he
        have HX := Lib.hid (hb1.trans (hb2.mono hb1.size))
        clear hA HBB hb1 hb2
        cases b2
        · go_wp2
          go_ret
          exact ⟨rfl, HX.out⟩
        · go_wp2
          go_ret
          exact ⟨rfl, HX.out⟩
set_option maxHeartbeats 1000000 in
theorem walk_FnExactMovesBetween (s : ByteArray) (hs : s.size ≤ maxLen) (t : ByteArray) (ht : t.size ≤ maxLen) (w : World) :
    Calls Try.prog 6 #[.string s, .string t] w fun e w' => e = .returned (.bool true) ∧ Below w.heap.size w w' := by
  obtain ⟨wl, hwl⟩ : ∃ wl, s = str wl := ⟨byt s, (str_byt s).symm⟩
  subst hwl
  obtain ⟨vt, hvt⟩ : ∃ vt, t = str vt := ⟨byt t, (str_byt t).symm⟩
  subst hvt
  by_cases hbig : (1048576 : Int) < ((str wl).size : Int)
  · go_enter Try.func6, Try.ntmps6
    go_wp2
    go_ret
    exact ⟨rfl, Below.refl _ _⟩
  · by_cases hbig2 : (1048576 : Int) < ((str vt).size : Int)
    · go_enter Try.func6, Try.ntmps6
      go_wp2
      go_ret
      exact ⟨rfl, Below.refl _ _⟩
    · cases hr : (reachB (str wl) && reachB (str vt))
      · have hR := Lib.hid hr
        clear hr
        go_enter Try.func6, Try.ntmps6
        go_wp2_with fail
        refine (sMovesBetween_no _ _ _ hs ht hR.out).mono ?_
        rintro e w1 ⟨rfl, hb1⟩
        go_wp2_with fail
        refine (movesBetween_no _ _ _ hs ht hR.out).mono ?_
        rintro e w2 ⟨rfl, hb2⟩
        go_wp2
        go_ret
        exact ⟨rfl, hb1.trans (hb2.mono hb1.size)⟩
      · rw [Bool.and_eq_true] at hr
        have hR := Lib.hid hr.1
        have hV := Lib.hid hr.2
        obtain ⟨d, hd, hd2⟩ := dep_of hr.1
        have HD := Lib.hid hd
        clear hr hd
        go_enter Try.func6, Try.ntmps6
        go_wp2_with fail
        refine (sMovesBetween_yes d _ _ _ hs ht hR.out HD.out hd2 hV.out).mono ?_
        rintro e w1 ⟨a, b, rfl, hb, hb1⟩
        have HBB := Lib.hid hb
        clear hb
        go_wp2_with fail
        refine (movesBetween_yes d _ _ _ hR.out HD.out hd2 hV.out).mono ?_
        rintro e w2 ⟨a2, b2, rfl, hA, hb2⟩
        obtain ⟨he1, he2⟩ := hA.one (reach_good hR.out) HBB.out
        subst he1 he2
        have HX := Lib.hid (hb1.trans (hb2.mono hb1.size))
        clear hA HBB hb1 hb2
        cases b2
        · go_wp2
          go_ret
          exact ⟨rfl, HX.out⟩
        · go_wp2
          go_ret
          exact ⟨rfl, HX.out⟩
end Go.Proofs.Ytdjfkhhlnkkilaa
