/- The laws' walks: IsLive, CountLive. -/
import Derived.Test.YtjadnfnpbacfdaaDoorSwRc
namespace Go.Proofs.YtjadnfnpbacfdaaDoor
open Go.RowKit

set_option maxHeartbeats 4000000 in
theorem walk_FnExactCountLive (t : Int) (_ : (Lit.int .i64 t).wf = true) (g : Int) (_ : (Lit.int .i64 g).wf = true) (f : Int) (_ : (Lit.int .i64 f).wf = true) (w : World) :
    Calls Tryd.prog 9 #[.int .i64 t, .int .i64 g, .int .i64 f] w fun e w' => e = .returned (.bool true) ∧ Below w.heap.size w w' := by
  obtain ⟨n, b, hv⟩ : ∃ (n : Int) (b : Bool), clV t g f = .tuple #[.int .i64 n, .bool b] := by
    unfold clV intOr
    split
    · exact ⟨_, _, rfl⟩
    · exact ⟨_, _, rfl⟩
  have HS := Lib.hid (fun wx => sCountLive_any t g f wx)
  have HI := Lib.hid (fun wx => countLive_any t g f wx)
  rw [hv] at HS HI
  clear hv
  go_enter Tryd.func9, Tryd.ntmps9
  go_wp2_with fail
  refine (HS.out _).mono ?_
  rintro e w1 ⟨rfl, hb1⟩
  go_wp2_with fail
  refine (HI.out _).mono ?_
  rintro e w2 ⟨rfl, hb2⟩
  have HB := Lib.hid (hb1.trans (hb2.mono hb1.size))
  clear hb1 hb2
  go_wp2_with fail
  go_ret
  exact ⟨rfl, HB.out⟩
set_option maxHeartbeats 4000000 in
theorem walk_FnExactIsLive (s : ByteArray) (hs : s.size ≤ maxLen) (w : World) :
    Calls Tryd.prog 8 #[.string s] w fun e w' => e = .returned (.bool true) ∧ Below w.heap.size w w' := by
  by_cases hbig : (1048576 : Int) < (s.size : Int)
  · go_enter Tryd.func8, Tryd.ntmps8
    go_wp2
    go_ret
    exact ⟨rfl, Below.refl _ _⟩
  · obtain ⟨n, b, hv⟩ : ∃ (n b : Bool), boolOr (lineB s) (liveB (byt s)) = .tuple #[.bool n, .bool b] := by
      unfold boolOr
      split
      · exact ⟨_, _, rfl⟩
      · exact ⟨_, _, rfl⟩
    have HS := Lib.hid (fun wx => sIsLive_any s wx hs)
    have HI := Lib.hid (fun wx => isLive_any s wx hs)
    rw [hv] at HS HI
    clear hv
    go_enter Tryd.func8, Tryd.ntmps8
    go_wp2_with fail
    refine (HS.out _).mono ?_
    rintro e w1 ⟨rfl, hb1⟩
    go_wp2_with fail
    refine (HI.out _).mono ?_
    rintro e w2 ⟨rfl, hb2⟩
    have HB := Lib.hid (hb1.trans (hb2.mono hb1.size))
    clear hb1 hb2
    go_wp2_with fail
    go_ret
    exact ⟨rfl, HB.out⟩
end Go.Proofs.YtjadnfnpbacfdaaDoor
