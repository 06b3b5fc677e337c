/- CanFinish: both sides, and the law's walk. -/
import Derived.Test.YtdjfkhhlnkkilaaRchW
namespace Go.Proofs.Ytdjfkhhlnkkilaa
open Go.RowKit Go.Maps

theorem last_reach {wl : List UInt8} (h : reachB (str wl) = true) : reachB (str (lastL wl)) = true := by
  unfold reachB at h ⊢
  rw [Bool.and_eq_true, decide_eq_true_eq] at h ⊢
  obtain ⟨h1, h2, h3⟩ := (goodL_iff _).1 h.1
  rw [byt_str] at h3
  rw [str_size] at h1 h2 h
  have hl := lastL_same wl h3
  refine ⟨(goodL_iff _).2 ⟨by rw [str_size]; omega, by rw [str_size]; omega, by rw [byt_str]; exact lastL_all wl⟩, by rw [str_size]; omega⟩
/-- What LastLine says of a line that is none of these. -/
theorem last_open (wl : List UInt8) : ∃ x y, strOr (goodL (str wl)) (lastL wl) = .tuple #[.string (str x), .bool y] ∧ (str x).size ≤ maxLen := by
  cases h : goodL (str wl)
  · exact ⟨[], false, strOr_no _ _ rfl, by rw [str_size]; decide⟩
  · obtain ⟨h1, h2, h3⟩ := (goodL_iff _).1 h
    rw [byt_str] at h3
    rw [str_size] at h2
    exact ⟨lastL wl, true, strOr_yes _ _ rfl, by rw [str_size, lastL_same wl h3]; unfold maxLen; omega⟩

set_option maxRecDepth 100000 in
set_option maxHeartbeats 1000000 in
theorem sCanFinish_no (wl : List UInt8) (w : World) (hs : (str wl).size ≤ maxLen) (hr : reachB (str wl) = false) :
    Calls Try.prog 47 #[.string (str wl)] w fun e w' => e = .returned (.tuple #[.bool false, .bool false]) ∧ Below w.heap.size w w' := by
  have hW := Lib.hid hr
  clear hr
  go_enter Try.func47, Try.ntmps47
  go_wp2_with fail
  refine (reFew_any _ _ hs).mono ?_
  rintro e w1 ⟨rfl, rfl⟩
  rw [hW.out]
  go_wp2
  go_ret2
  exact ⟨rfl, Below.refl _ _⟩
set_option maxRecDepth 100000 in
set_option maxHeartbeats 1000000 in
theorem sCanFinish_yes (d : Nat) (wl : List UInt8) (w : World) (hs : (str wl).size ≤ maxLen) (hr : reachB (str wl) = true) (hd : IsDep nxL wl d) (hd2 : d ≤ 60000) :
    Calls Try.prog 47 #[.string (str wl)] w fun e w' => ∃ b, e = .returned (.tuple #[.bool b, .bool true]) ∧ CrV wl (lastL wl) d b ∧ Below w.heap.size w w' := by
  have HRA := Lib.hid (fun wx => reAfter_any _ d wl (lastL wl) wx (reach_good hr) hd hd2)
  have hW := Lib.hid hr
  have hl : (str wl).size ≤ 100 := by have := (reach_good hr).2.2; rw [str_size]; omega
  have HLL := Lib.hid (fun wx => liLast_any (str wl) wx hl)
  rw [byt_str] at HLL
  clear hr hd hl
  go_enter Try.func47, Try.ntmps47
  go_wp2_with fail
  refine (reFew_any _ _ hs).mono ?_
  rintro e w1 ⟨rfl, rfl⟩
  rw [hW.out]
  go_wp2_with fail
  refine (HLL.out _).mono ?_
  rintro e w1 ⟨rfl, rfl⟩
  go_wp2_with fail
  refine (HRA.out _).mono ?_
  rintro e w1 ⟨a, rfl, hA, hb1⟩
  have HB := Lib.hid hb1
  clear hb1
  rcases hA with ⟨k, hk, hkv, rfl⟩ | ⟨hno, rfl⟩
  · have HK := Lib.hid hkv
    clear hkv
    go_wp2
    go_ret2
    exact ⟨true, by simp, .inl ⟨rfl, k, hk, HK.out⟩, HB.out⟩
  · have HK := Lib.hid hno
    clear hno
    go_wp2
    go_ret2
    exact ⟨false, by simp, .inr ⟨rfl, HK.out⟩, HB.out⟩
set_option maxRecDepth 100000 in
set_option maxHeartbeats 1000000 in
theorem canFinish_no (wl : List UInt8) (w : World) (hs : (str wl).size ≤ maxLen) (hr : reachB (str wl) = false) :
    Calls Try.prog 48 #[.string (str wl)] w fun e w' => e = .returned (.tuple #[.bool false, .bool false]) ∧ Below w.heap.size w w' := by
  obtain ⟨x, y, hx, hxl⟩ := last_open wl
  have HX := Lib.hid hx
  have HCR := Lib.hid (fun wx => canReach_no wl x wx hs hxl (by rw [hr]; rfl))
  have HLL := Lib.hid (fun wx => lastLine_any (str wl) wx hs)
  rw [byt_str, hx] at HLL
  clear hr hx
  go_enter Try.func48, Try.ntmps48
  go_wp2_with fail
  refine (HLL.out _).mono ?_
  rintro e w1 ⟨rfl, hb1⟩
  go_wp2_with fail
  refine (HCR.out _).mono ?_
  rintro e w2 ⟨rfl, hb2⟩
  go_wp2
  go_ret2
  exact ⟨rfl, hb1.trans (hb2.mono hb1.size)⟩
set_option maxRecDepth 100000 in
set_option maxHeartbeats 1000000 in
theorem canFinish_yes (d : Nat) (wl : List UInt8) (w : World) (hs : (str wl).size ≤ maxLen) (hr : reachB (str wl) = true) (hd : IsDep nxL wl d) (hd2 : d ≤ 60000) :
    Calls Try.prog 48 #[.string (str wl)] w fun e w' => ∃ b, e = .returned (.tuple #[.bool b, .bool true]) ∧ CrV wl (lastL wl) d b ∧ Below w.heap.size w w' := by
  have HCR := Lib.hid (fun wx => canReach_yes d wl (lastL wl) wx hr hd hd2 (last_reach hr))
  have hg : goodL (str wl) = true := by unfold reachB at hr; exact (Bool.and_eq_true_iff.1 hr).1
  have HLL := Lib.hid (fun wx => lastLine_any (str wl) wx hs)
  rw [byt_str, strOr_yes _ _ hg] at HLL
  clear hr hd hg
  go_enter Try.func48, Try.ntmps48
  go_wp2_with fail
  refine (HLL.out _).mono ?_
  rintro e w1 ⟨rfl, hb1⟩
  go_wp2_with fail
  refine (HCR.out _).mono ?_
  rintro e w2 ⟨b, rfl, hA, hb2⟩
  have HA := Lib.hid hA
  clear hA
  go_wp2
  go_ret2
  exact ⟨b, rfl, HA.out, hb1.trans (hb2.mono hb1.size)⟩

set_option maxHeartbeats 1000000 in
theorem walk_FnExactCanFinish (s : ByteArray) (hs : s.size ≤ maxLen) (w : World) :
    Calls Try.prog 15 #[.string s] w fun e w' => e = .returned (.bool true) ∧ Below w.heap.size w w' := by
  obtain ⟨wl, hwl⟩ : ∃ wl, s = str wl := ⟨byt s, (str_byt s).symm⟩
  subst hwl
  by_cases hbig : (1048576 : Int) < ((str wl).size : Int)
  · go_enter Try.func15, Try.ntmps15
    go_wp2
    go_ret
    exact ⟨rfl, Below.refl _ _⟩
  · cases hr : reachB (str wl)
    · have hR := Lib.hid hr
      clear hr
      go_enter Try.func15, Try.ntmps15
      go_wp2_with fail
      refine (sCanFinish_no _ _ hs hR.out).mono ?_
      rintro e w1 ⟨rfl, hb1⟩
      go_wp2_with fail
      refine (canFinish_no _ _ hs hR.out).mono ?_
      rintro e w2 ⟨rfl, hb2⟩
      go_wp2
      go_ret
      exact ⟨rfl, hb1.trans (hb2.mono hb1.size)⟩
    · have hR := Lib.hid hr
      obtain ⟨d, hd, hd2⟩ := dep_of hr
      have HD := Lib.hid hd
      clear hr hd
      go_enter Try.func15, Try.ntmps15
      go_wp2_with fail
      refine (sCanFinish_yes d _ _ hs hR.out HD.out hd2).mono ?_
      rintro e w1 ⟨b, rfl, hb, hb1⟩
      have HBB := Lib.hid hb
      clear hb
      go_wp2_with fail
      refine (canFinish_yes d _ _ hs hR.out HD.out hd2).mono ?_
      rintro e w2 ⟨b2, rfl, hA, hb2⟩
      have he : b2 = b := hA.one HBB.out
      subst he
      have HX := Lib.hid (hb1.trans (hb2.mono hb1.size))
      clear hA HBB hb1 hb2
      cases b2
      · go_wp2
        go_ret
        exact ⟨rfl, HX.out⟩
      · go_wp2
        go_ret
        exact ⟨rfl, HX.out⟩
end Go.Proofs.Ytdjfkhhlnkkilaa
