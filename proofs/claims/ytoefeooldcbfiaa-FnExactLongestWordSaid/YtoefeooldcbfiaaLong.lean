/- The longest plays: both sides, and the law's walk. -/
import Derived.Test.YtoefeooldcbfiaaMvsA
import Derived.Test.YtoefeooldcbfiaaLayS
namespace Go.Proofs.Ytoefeooldcbfiaa
open Go.RowKit Go.Maps

set_option maxHeartbeats 1000000 in
theorem longest_no (wl : List UInt8) (w : World) (hs : (str wl).size ≤ maxLen) (hr : reachB (str wl) = false) :
    Calls Try.prog 48 #[.string (str wl)] w fun e w' => e = .returned (.tuple #[.int .i64 0, .bool false]) ∧ Below w.heap.size w w' := by
  have hR := Lib.hid hr
  clear hr
  go_enter Try.func48, Try.ntmps48
  go_wp2_with (go_at_call 45; refine (arrivals_no wl _ hs hR.out).mono ?_; rintro e w' ⟨rfl, rfl⟩)
  go_ret2
  exact ⟨rfl, Below.refl _ _⟩
set_option maxHeartbeats 1000000 in
theorem longest_yes (d : Nat) (wl : List UInt8) (w : World) (hr : reachB (str wl) = true) (hd : IsDep nxL wl d) (hd2 : d ≤ 60000) :
    Calls Try.prog 48 #[.string (str wl)] w fun e w' => e = .returned (.tuple #[.int .i64 ((d : Int) - 1), .bool true]) ∧ Below w.heap.size w w' := by
  have hR := Lib.hid hr
  have HD := Lib.hid hd
  have HG := Lib.hid (reach_good hr)
  clear hr hd
  go_enter Try.func48, Try.ntmps48
  go_wp2_with fail
  refine (arrivals_yes d wl _ hR.out HD.out hd2).mono ?_
  rintro e w1 ⟨ba, rfl, hba, ⟨D, hown, hA⟩, hb1⟩
  have HA := Lib.hid (arrV_all hA)
  have HO := Lib.hid hown
  clear hown hA
  go_wp2_with fail
  refine (arrMoves_any wl d _ ba D _ HG.out HO.out HA.out).mono ?_
  rintro e w2 ⟨v2, L, rfl, hrow, hb2, hlen, hL1, hL2⟩
  obtain ⟨A2, c2, rfl, hat⟩ := it_own hrow
  have hd1 := HD.out.1
  obtain ⟨x, hx⟩ := List.exists_mem_of_ne_nil _ (HD.out.2.2 (d - 1) (by omega))
  have hin := hL2 (d - 1) x (by omega) hx rfl
  have HL1 := Lib.hid hL1
  have HIN := Lib.hid hin
  have HB := Lib.hid (hb1.trans (hb2.mono hb1.size))
  have HAT := Lib.hid hat
  clear hrow hb2 hb1 hat hL1 hL2 hin
  go_wp2_with fail
  refine (maxI_any L (fun e => by have := HIN.out; rw [e] at this; simp at this) (by omega) A2 c2 _ HAT.out).mono ?_
  rintro e w3 ⟨m, rfl, hm, hmax, rfl⟩
  have he : m = (d : Int) - 1 := by
    obtain ⟨j, y, hj, _, _, e⟩ := HL1.out m hm
    have := hmax _ HIN.out
    omega
  subst he
  go_wp2
  go_ret2
  exact ⟨rfl, HB.out⟩

end Go.Proofs.Ytoefeooldcbfiaa
