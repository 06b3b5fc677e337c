/- The longest plays: both sides, and the law's walk. -/
import Derived.Test.YtdjfkhhlnkkilaaMvsA
import Derived.Test.YtdjfkhhlnkkilaaLayW
namespace Go.Proofs.Ytdjfkhhlnkkilaa
open Go.RowKit Go.Maps

set_option maxHeartbeats 1000000 in
theorem sLongest_no (s : ByteArray) (w : World) (hs : s.size ≤ maxLen) (hr : reachB s = false) :
    Calls Try.prog 39 #[.string s] w fun e w' => e = .returned (.tuple #[.int .i64 0, .bool false]) ∧ Below w.heap.size w w' := by
  have hR := Lib.hid hr
  clear hr
  go_enter Try.func39, Try.ntmps39
  go_wp2_with (go_at_call 51; refine (reFew_any _ _ hs).mono ?_; rintro e w' ⟨rfl, rfl⟩; rw [hR.out])
  go_ret2
  exact ⟨rfl, Below.refl _ _⟩
set_option maxHeartbeats 1000000 in
theorem sLongest_yes (d : Nat) (wl : List UInt8) (w : World) (hs : (str wl).size ≤ maxLen) (hr : reachB (str wl) = true) (hd : IsDep nxL wl d) (hd2 : d ≤ 60000) :
    Calls Try.prog 39 #[.string (str wl)] w fun e w' => e = .returned (.tuple #[.int .i64 ((d : Int) - 1), .bool true]) ∧ Below w.heap.size w w' := by
  have HG := Lib.hid (reach_good hr)
  have HD := Lib.hid hd
  have hR := Lib.hid hr
  have h1 := hd.1
  clear hr hd
  go_enter Try.func39, Try.ntmps39
  go_wp2_with (go_at_call 51; refine (reFew_any _ _ hs).mono ?_; rintro e w' ⟨rfl, rfl⟩; rw [hR.out])
  refine (reLayers_any _ d wl _ HG.out HD.out hd2).mono ?_
  rintro e w1 ⟨v1, rfl, ⟨g, c, vs, rfl, _⟩, hb1⟩
  go_wp2
  go_ret2
  exact ⟨rfl, hb1⟩
set_option maxHeartbeats 1000000 in
theorem longest_no (wl : List UInt8) (w : World) (hs : (str wl).size ≤ maxLen) (hr : reachB (str wl) = false) :
    Calls Try.prog 40 #[.string (str wl)] w fun e w' => e = .returned (.tuple #[.int .i64 0, .bool false]) ∧ Below w.heap.size w w' := by
  have hR := Lib.hid hr
  clear hr
  go_enter Try.func40, Try.ntmps40
  go_wp2_with (go_at_call 53; refine (arrivals_no wl _ hs hR.out).mono ?_; rintro e w' ⟨rfl, rfl⟩)
  go_ret2
  exact ⟨rfl, Below.refl _ _⟩
set_option maxHeartbeats 1000000 in
theorem longest_yes (d : Nat) (wl : List UInt8) (w : World) (hr : reachB (str wl) = true) (hd : IsDep nxL wl d) (hd2 : d ≤ 60000) :
    Calls Try.prog 40 #[.string (str wl)] w fun e w' => e = .returned (.tuple #[.int .i64 ((d : Int) - 1), .bool true]) ∧ Below w.heap.size w w' := by
  have hR := Lib.hid hr
  have HD := Lib.hid hd
  have HG := Lib.hid (reach_good hr)
  clear hr hd
  go_enter Try.func40, Try.ntmps40
  go_wp2_with fail
  refine (arrivals_yes d wl _ hR.out HD.out hd2).mono ?_
  rintro e w1 ⟨ba, rfl, hba, ⟨D, hown, hA⟩, hb1⟩
  have HA := Lib.hid (arrV_all hA)
  have HO := Lib.hid hown
  clear hown hA
  go_wp2_with fail
  refine (arrMoves_any wl d _ ba D _ HG.out HO.out HA.out).mono ?_
  rintro e w2 ⟨v2, L, rfl, hrow, hb2, hlen, hL1, hL2⟩
  obtain ⟨A2, c2, rfl, hat⟩ := it_own hrow
  have hd1 := HD.out.1
  obtain ⟨x, hx⟩ := List.exists_mem_of_ne_nil _ (HD.out.2.2 (d - 1) (by omega))
  have hin := hL2 (d - 1) x (by omega) hx rfl
  have HL1 := Lib.hid hL1
  have HIN := Lib.hid hin
  have HB := Lib.hid (hb1.trans (hb2.mono hb1.size))
  have HAT := Lib.hid hat
  clear hrow hb2 hb1 hat hL1 hL2 hin
  go_wp2_with fail
  refine (maxI_any L (fun e => by have := HIN.out; rw [e] at this; simp at this) (by omega) A2 c2 _ HAT.out).mono ?_
  rintro e w3 ⟨m, rfl, hm, hmax, rfl⟩
  have he : m = (d : Int) - 1 := by
    obtain ⟨j, y, hj, _, _, e⟩ := HL1.out m hm
    have := hmax _ HIN.out
    omega
  subst he
  go_wp2
  go_ret2
  exact ⟨rfl, HB.out⟩

set_option maxHeartbeats 1000000 in
theorem walk_FnExactLongestPlay (s : ByteArray) (hs : s.size ≤ maxLen) (w : World) :
    Calls Try.prog 11 #[.string s] w fun e w' => e = .returned (.bool true) ∧ Below w.heap.size w w' := by
  obtain ⟨wl, hwl⟩ : ∃ wl, s = str wl := ⟨byt s, (str_byt s).symm⟩
  subst hwl
  by_cases hbig : (1048576 : Int) < ((str wl).size : Int)
  · go_enter Try.func11, Try.ntmps11
    go_wp2
    go_ret
    exact ⟨rfl, Below.refl _ _⟩
  · cases hr : reachB (str wl)
    · have hR := Lib.hid hr
      clear hr
      go_enter Try.func11, Try.ntmps11
      go_wp2_with fail
      refine (sLongest_no _ _ hs hR.out).mono ?_
      rintro e w1 ⟨rfl, hb1⟩
      go_wp2_with fail
      refine (longest_no _ _ hs hR.out).mono ?_
      rintro e w2 ⟨rfl, hb2⟩
      go_wp2
      go_ret
      exact ⟨rfl, hb1.trans (hb2.mono hb1.size)⟩
    · have hR := Lib.hid hr
      obtain ⟨d, hd, hd2⟩ := dep_of hr
      have HD := Lib.hid hd
      clear hr hd
      go_enter Try.func11, Try.ntmps11
      go_wp2_with fail
      refine (sLongest_yes d _ _ hs hR.out HD.out hd2).mono ?_
      rintro e w1 ⟨rfl, hb1⟩
      go_wp2_with fail
      refine (longest_yes d _ _ hR.out HD.out hd2).mono ?_
      rintro e w2 ⟨rfl, hb2⟩
      go_wp2
      go_ret
      exact ⟨rfl, hb1.trans (hb2.mono hb1.size)⟩
end Go.Proofs.Ytdjfkhhlnkkilaa
