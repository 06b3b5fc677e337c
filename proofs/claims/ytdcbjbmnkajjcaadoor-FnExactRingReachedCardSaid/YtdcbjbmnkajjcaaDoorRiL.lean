/- RingReached: the law's walk. -/
import Derived.Test.YtdcbjbmnkajjcaaDoorList
import Derived.Test.YtdcbjbmnkajjcaaDoorLay
import Derived.Test.YtdcbjbmnkajjcaaDoorRiB
namespace Go.Proofs.YtdcbjbmnkajjcaaDoor
open Go.RowKit

set_option maxRecDepth 100000 in
set_option maxHeartbeats 2000000 in
theorem twin_FnExactRingReached (s : ByteArray) (l : List (List UInt8)) (c : Bool) (w : World) (hsmall : ¬ (1048576 : Int) < (s.size : Int)) (hl : l.length ≤ 60000)
    (hS : ∀ wx, Calls Tryd.prog 8 #[.string s] wx (RlPost l c wx)) (hI : ∀ wx, Calls Tryd.prog 9 #[.string s] wx (RsRing l c wx)) :
    Calls Tryd.prog 3 #[.string s] w fun e w' => e = .returned (.bool true) ∧ Below w.heap.size w w' := by
  have HS := Lib.hid hS
  have HI := Lib.hid hI
  clear hS hI
  go_enter Tryd.func3, Tryd.ntmps3
  go_wp2_with fail
  refine (HS.out _).mono ?_
  rintro e w1 ⟨A1, cap1, rfl, at1, hb1⟩
  have AT1 := Lib.hid at1
  have HB1 := Lib.hid hb1
  clear at1 hb1
  go_wp2_with fail
  refine (HI.out _).mono ?_
  rintro e w2 ⟨v2, rfl, ho2, hb2⟩
  obtain ⟨A2, cap2, rfl, _, _, at2, _⟩ := st_own ho2
  have AT2 := Lib.hid at2
  have HO2 := Lib.hid ho2
  have HB2 := Lib.hid hb2
  clear at2 ho2 hb2
  go_wp2_with fail
  refine (eqStringS_same l A2 A1 cap2 cap1 _ AT2.out (AT1.out.below HB2.out) (by omega)).mono ?_
  rintro e w3 ⟨rfl, hb3⟩
  have HO3 := Lib.hid (own_below HO2.out hb3)
  have HB3 := Lib.hid (HB2.out.trans (hb3.mono HB2.out.size))
  clear hb3 AT2 HO2
  go_wp2_with fail
  refine (markStringS_any l.length 1 w1.heap.size l _ _ rfl HO3.out (by omega) (by omega) (by omega)).mono ?_
  rintro e w4 ⟨rfl, ho4, hb4, _⟩
  have HO4 := Lib.hid ho4
  have HB4 := Lib.hid (HB3.out.trans hb4)
  clear ho4 hb4 HO3
  go_wp2_with fail
  refine (heldStringS_any l.length 1 w1.heap.size _ _ HO4.out (by omega) (by omega) (by omega)).mono ?_
  rintro e w5 ⟨rfl, hb5⟩
  have HO5 := Lib.hid (own_below HO4.out hb5)
  have HB5 := Lib.hid (HB4.out.trans (hb5.mono HB4.out.size))
  clear hb5 HO4
  go_wp2_with fail
  refine (HI.out _).mono ?_
  rintro e w6 ⟨v6, rfl, ho6, hb6⟩
  obtain ⟨A6, cap6, rfl, _, _, at6, _⟩ := st_own ho6
  have AT6 := Lib.hid at6
  have HO6 := Lib.hid (own_below HO5.out hb6)
  have HB6 := Lib.hid (HB5.out.trans (hb6.mono HB5.out.size))
  clear at6 ho6 hb6 HO5
  go_wp2_with fail
  refine (eqStringS_same l A6 A1 cap6 cap1 _ AT6.out (AT1.out.below HB6.out) (by omega)).mono ?_
  rintro e w7 ⟨rfl, hb7⟩
  have HO7 := Lib.hid (own_below HO6.out hb7)
  have HB7 := Lib.hid (HB6.out.trans (hb7.mono HB6.out.size))
  clear hb7 HO6
  go_wp2_with fail
  refine (heldStringS_any l.length 1 w1.heap.size _ _ HO7.out (by omega) (by omega) (by omega)).mono ?_
  rintro e w8 ⟨rfl, hb8⟩
  have HB8 := Lib.hid (HB7.out.trans (hb8.mono HB7.out.size))
  clear hb8
  go_wp2
  go_ret
  exact ⟨rfl, HB1.out.trans (HB8.out.mono HB1.out.size)⟩
theorem walk_FnExactRingReached (s : ByteArray) (hs : s.size ≤ maxLen) (w : World) :
    Calls Tryd.prog 3 #[.string s] w fun e w' => e = .returned (.bool true) ∧ Below w.heap.size w w' := by
  by_cases hbig : (1048576 : Int) < (s.size : Int)
  · go_enter Tryd.func3, Tryd.ntmps3
    go_wp2
    go_ret
    exact ⟨rfl, Below.refl _ _⟩
  · cases h : ringB s
    · exact twin_FnExactRingReached s [] false w hbig (by simp) (fun wx => sRing_no s wx hs h) (fun wx => iRing_no s wx hs h)
    · obtain ⟨l, hl⟩ := rrL_ex h
      exact twin_FnExactRingReached s l true w hbig (by have := rrL_few h hl; omega) (fun wx => sRing_yes s l wx h hl) (fun wx => iRing_yes s l wx h hl)
end Go.Proofs.YtdcbjbmnkajjcaaDoor
