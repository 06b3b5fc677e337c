/- The walk of the law on ranked lines and plays, for all lines, numbers and moves. -/
import Derived.Test.YticdhapbkfbhjabWalkFc
namespace Go.Proofs.Yticdhapbkfbhjab
open Go.RowKit

set_option maxRecDepth 100000 in
set_option maxHeartbeats 8000000 in
theorem walk_FnLinesRankedOfAll (s : ByteArray) (hs : s.size ≤ maxLen) (i : Int) (_ : (Lit.int .i64 i).wf = true) (j : Int) (_ : (Lit.int .i64 j).wf = true) (k : Int) (_ : (Lit.int .i64 k).wf = true) (r : Int) (_ : (Lit.int .i64 r).wf = true) (v : ByteArray) (hv : v.size ≤ maxLen) (A : Option Addr) (n c : Nat) (l : List (Int × Int)) (w : World) (hin : n = l.length ∧ (n ≤ c ∧ n ≤ maxLen) ∧ MvIn w A l) :
    Calls Try.prog 7 #[.string s, .int .i64 i, .int .i64 j, .int .i64 k, .int .i64 r, .string v, .slice A n c] w fun e w' => e = .returned (.bool true) ∧ Below w.heap.size w w' := by
  obtain ⟨rfl, ⟨hcap, hmax⟩, hin⟩ := hin
  by_cases hbig : (1048576 : Int) < (s.size : Int)
  · clear hin
    go_enter Try.func7, Try.ntmps7
    go_wp2
    go_ret
    exact ⟨rfl, Below.refl _ _⟩
  by_cases hbig2 : (1048576 : Int) < (v.size : Int)
  · clear hin
    go_enter Try.func7, Try.ntmps7
    go_wp2
    go_ret
    exact ⟨rfl, Below.refl _ _⟩
  by_cases hbig3 : (10000 : Int) < (l.length : Int)
  · clear hin
    go_enter Try.func7, Try.ntmps7
    go_wp2
    go_ret
    exact ⟨rfl, Below.refl _ _⟩
  have HI := Lib.hid hin
  have hln : l.length ≤ 2000000 := by omega
  clear hin
  obtain ⟨b, R, T, G, F, L, a1, a2, a3, hcase⟩ := ranked_open s
  obtain ⟨b5, b7, x, fl, N, c1, c2, c3, hcase7, hcase5⟩ := firsts_open i j k r
  obtain ⟨en, b11, b13, q, p1, p2, hcaseP⟩ := plays_open v l
  go_enter Try.func7, Try.ntmps7
  go_wp2_with fail
  refine (rank_any _ _ hs).mono ?_
  rintro e w1 ⟨rfl, hb1⟩
  rw [a1.out]
  go_wp2_with fail
  refine (sRank_any _ _ hs).mono ?_
  rintro e wz ⟨rfl, rfl⟩
  rw [a1.out]
  go_wp2_with fail
  refine (countOf_any _ _ hs).mono ?_
  rintro e wz ⟨rfl, rfl⟩
  rw [a2.out]
  go_wp2_with fail
  refine (sCountOf_any _ _ hs).mono ?_
  rintro e wz ⟨rfl, rfl⟩
  rw [a2.out]
  go_wp2_with fail
  refine (lastLine_any _ _ hs).mono ?_
  rintro e w2 ⟨rfl, hb2⟩
  rw [a3.out]
  have hB2 := hb1.trans (hb2.mono hb1.size)
  clear hb1 hb2
  go_wp2_with fail
  refine (sLastLine_any _ _ hs).mono ?_
  rintro e wz ⟨rfl, rfl⟩
  rw [a3.out]
  go_upto_if 173 with fail
  rename_i KK hKK
  have HK := Lib.hid hKK
  have hcaseP : PlayCase v l en q b11 b13 := hcaseP.out
  clear hKK a1 a2 a3
  rcases hcase.out with rfl | ⟨rfl, N1, hF⟩
  · clear hcase
    go_wp2_with fail
    exact HK.out _ _ (ranked_asks w _ hB2 hbig3 hv hcap HI hln c1 c2 c3 p1 p2 hcaseP hcase7 hcase5)
  · obtain ⟨f1, f2, f3, f4, hl, _, _, _, ⟨_, _⟩, ⟨_, _⟩, ⟨_, _⟩, fs, fn⟩ := hF
    clear hcase
    have s1 : (T + G + F != (s.size : Int)) = false := by rw [fs.out]; simp
    go_wp2_with fail
    refine (countLines_any _ _ _ _).mono ?_
    rintro e w3 ⟨rfl, hb3⟩
    rw [f1.out]
    have hB3 := hB2.trans (hb3.mono hB2.size)
    clear hb3 hB2
    go_wp2_with fail
    refine (unr_any _ _ _ _ _).mono ?_
    rintro e w4 ⟨rfl, hb4⟩
    rw [f2.out]
    have hB4 := hB3.trans (hb4.mono hB3.size)
    clear hb4 hB3
    go_wp2_with fail
    refine (way_any _ _ hl).mono ?_
    rintro e wz ⟨rfl, rfl⟩
    rw [f3.out]
    go_wp2_with fail
    refine (countOf_any _ _ hl).mono ?_
    rintro e wz ⟨rfl, rfl⟩
    rw [f4.out]
    go_upto_if 261 with fail
    by_cases hlt : R + 1 < N1
    · obtain ⟨X, x1, x2, x3⟩ := fn hlt
      clear fn
      go_wp2_with fail
      refine (unr_any _ _ _ _ _).mono ?_
      rintro e w5 ⟨rfl, hb5⟩
      rw [x1.out]
      have hB5 := hB4.trans (hb5.mono hB4.size)
      clear hb5 hB4
      go_wp2_with fail
      exact HK.out _ _ (ranked_asks w _ hB5 hbig3 hv hcap HI hln c1 c2 c3 p1 p2 hcaseP hcase7 hcase5)
    · clear fn
      go_wp2_with fail
      exact HK.out _ _ (ranked_asks w _ hB4 hbig3 hv hcap HI hln c1 c2 c3 p1 p2 hcaseP hcase7 hcase5)
end Go.Proofs.Yticdhapbkfbhjab
