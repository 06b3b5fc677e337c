/- ShortestOnRing, ReachOnRing: the laws' walks. -/
import Derived.Test.YtdcbjbmnkajjcaaDoorCiTo
import Derived.Test.YtdcbjbmnkajjcaaDoorCiW
namespace Go.Proofs.YtdcbjbmnkajjcaaDoor
open Go.RowKit

/-- The first shortest play, or none. -/
noncomputable def pathO (s v : ByteArray) : Option (List Nat) := open Classical in if h : ∃ o, PathIs s v o then Classical.choose h else none
theorem pathO_is {s v : ByteArray} {o : Option (List Nat)} (h : PathIs s v o) : o = pathO s v := by
  have hex : ∃ o, PathIs s v o := ⟨o, h⟩
  unfold pathO
  rw [dif_pos hex]
  exact path_one h (Classical.choose_spec hex)
theorem lenP_open (o : Option (List Nat)) : ∃ x y, lenP o = .tuple #[.int .i64 x, .bool y] := by
  cases o with
  | none => exact ⟨_, _, rfl⟩
  | some q => exact ⟨_, _, rfl⟩
noncomputable def shoV (s v : ByteArray) : Value := if ringB s && ringB v then lenP (pathO s v) else lenP none
noncomputable def reaV (s v : ByteArray) : Value := if ringB s && ringB v then .tuple #[.bool (pathO s v).isSome, .bool true] else .tuple #[.bool false, .bool false]
theorem shoV_open (s v : ByteArray) : ∃ x y, shoV s v = .tuple #[.int .i64 x, .bool y] := by
  unfold shoV
  split
  · exact lenP_open _
  · exact lenP_open _
theorem reaV_open (s v : ByteArray) : ∃ x y, reaV s v = .tuple #[.bool x, .bool y] := by
  unfold reaV
  split
  · exact ⟨_, _, rfl⟩
  · exact ⟨_, _, rfl⟩
theorem sShort_any (s v : ByteArray) (w : World) (hs : s.size ≤ maxLen) (hv : v.size ≤ maxLen) : Calls Tryd.prog 15 #[.string s, .string v] w fun e w' => e = .returned (shoV s v) ∧ Below w.heap.size w w' := by
  cases h : ringB s && ringB v
  · refine (sShort_no s v w hs hv h).mono fun e w' hp => ?_
    unfold shoV
    rw [h]
    exact ⟨hp.1, hp.2 ▸ Below.refl _ _⟩
  · obtain ⟨h1, h2⟩ := Bool.and_eq_true_iff.1 h
    refine (sShort_of s v w h1 h2 (fun wx => ciReach_any s wx h1)).mono fun e w' hp => ?_
    obtain ⟨o, ho, he, hb⟩ := hp
    unfold shoV
    rw [if_pos h, ← pathO_is ho]
    exact ⟨he, hb⟩
theorem iShort_any (s v : ByteArray) (w : World) (hs : s.size ≤ maxLen) (hv : v.size ≤ maxLen) : Calls Tryd.prog 16 #[.string s, .string v] w fun e w' => e = .returned (shoV s v) ∧ Below w.heap.size w w' := by
  cases h : ringB s && ringB v
  · refine (shortI_no s v w hs hv h).mono fun e w' hp => ?_
    unfold shoV
    rw [h]
    exact ⟨hp.1, hp.2 ▸ Below.refl _ _⟩
  · obtain ⟨h1, h2⟩ := Bool.and_eq_true_iff.1 h
    refine (shortI_any s v w h1 h2).mono fun e w' hp => ?_
    obtain ⟨o, ho, he, hb⟩ := hp
    unfold shoV
    rw [if_pos h, ← pathO_is ho]
    exact ⟨he, hb⟩
theorem sReach_any2 (s v : ByteArray) (w : World) (hs : s.size ≤ maxLen) (hv : v.size ≤ maxLen) : Calls Tryd.prog 13 #[.string s, .string v] w fun e w' => e = .returned (reaV s v) ∧ Below w.heap.size w w' := by
  cases h : ringB s && ringB v
  · refine (sReach_no s v w hs hv h).mono fun e w' hp => ?_
    unfold reaV
    rw [h]
    exact ⟨hp.1, hp.2 ▸ Below.refl _ _⟩
  · obtain ⟨h1, h2⟩ := Bool.and_eq_true_iff.1 h
    refine (sReach_of s v w h1 h2 (fun wx => ciReach_any s wx h1)).mono fun e w' hp => ?_
    obtain ⟨o, ho, he, hb⟩ := hp
    unfold reaV
    rw [if_pos h, ← pathO_is ho]
    exact ⟨he, hb⟩
theorem iReach_any2 (s v : ByteArray) (w : World) (hs : s.size ≤ maxLen) (hv : v.size ≤ maxLen) : Calls Tryd.prog 14 #[.string s, .string v] w fun e w' => e = .returned (reaV s v) ∧ Below w.heap.size w w' := by
  cases h : ringB s && ringB v
  · refine (reachI_no s v w hs hv h).mono fun e w' hp => ?_
    unfold reaV
    rw [h]
    exact ⟨hp.1, hp.2 ▸ Below.refl _ _⟩
  · obtain ⟨h1, h2⟩ := Bool.and_eq_true_iff.1 h
    refine (reachI_any s v w h1 h2).mono fun e w' hp => ?_
    obtain ⟨o, ho, he, hb⟩ := hp
    unfold reaV
    rw [if_pos h, ← pathO_is ho]
    exact ⟨he, hb⟩
set_option maxRecDepth 100000 in
set_option maxHeartbeats 2000000 in
theorem walk_FnExactShortestOnRing (s : ByteArray) (hs : s.size ≤ maxLen) (v : ByteArray) (hv : v.size ≤ maxLen) (w : World) :
    Calls Tryd.prog 5 #[.string s, .string v] w fun e w' => e = .returned (.bool true) ∧ Below w.heap.size w w' := by
  by_cases hbig0 : (1048576 : Int) < (s.size : Int)
  · go_enter Tryd.func5, Tryd.ntmps5
    go_wp2
    go_ret
    exact ⟨rfl, Below.refl _ _⟩
  · skip
    by_cases hbig1 : (1048576 : Int) < (v.size : Int)
    · go_enter Tryd.func5, Tryd.ntmps5
      go_wp2
      go_ret
      exact ⟨rfl, Below.refl _ _⟩
    · skip
      have HS := Lib.hid (fun wx => sShort_any s v wx hs hv)
      have HM := Lib.hid (fun wx => iShort_any s v wx hs hv)
      obtain ⟨x, y, hxy⟩ := shoV_open s v
      rw [hxy] at HS HM
      clear hxy
      go_enter Tryd.func5, Tryd.ntmps5
      go_wp2_with fail
      refine (HS.out _).mono ?_
      rintro e w1 ⟨rfl, hb1⟩
      go_wp2_with fail
      refine (HM.out _).mono ?_
      rintro e w2 ⟨rfl, hb2⟩
      go_wp2
      go_ret
      exact ⟨rfl, hb1.trans (hb2.mono hb1.size)⟩
set_option maxRecDepth 100000 in
set_option maxHeartbeats 2000000 in
theorem walk_FnExactReachOnRing (s : ByteArray) (hs : s.size ≤ maxLen) (v : ByteArray) (hv : v.size ≤ maxLen) (w : World) :
    Calls Tryd.prog 4 #[.string s, .string v] w fun e w' => e = .returned (.bool true) ∧ Below w.heap.size w w' := by
  by_cases hbig0 : (1048576 : Int) < (s.size : Int)
  · go_enter Tryd.func4, Tryd.ntmps4
    go_wp2
    go_ret
    exact ⟨rfl, Below.refl _ _⟩
  · skip
    by_cases hbig1 : (1048576 : Int) < (v.size : Int)
    · go_enter Tryd.func4, Tryd.ntmps4
      go_wp2
      go_ret
      exact ⟨rfl, Below.refl _ _⟩
    · skip
      have HS := Lib.hid (fun wx => sReach_any2 s v wx hs hv)
      have HM := Lib.hid (fun wx => iReach_any2 s v wx hs hv)
      obtain ⟨x, y, hxy⟩ := reaV_open s v
      rw [hxy] at HS HM
      clear hxy
      go_enter Tryd.func4, Tryd.ntmps4
      go_wp2_with fail
      refine (HS.out _).mono ?_
      rintro e w1 ⟨rfl, hb1⟩
      go_wp2_with fail
      refine (HM.out _).mono ?_
      rintro e w2 ⟨rfl, hb2⟩
      go_wp2
      go_ret
      exact ⟨rfl, hb1.trans (hb2.mono hb1.size)⟩
end Go.Proofs.YtdcbjbmnkajjcaaDoor
