/- AllExchanges: the law's walk. -/
import Derived.Test.YtfiifjcjmnhbnaaDoorSwAk
import Derived.Test.YtfiifjcjmnhbnaaDoorSwAl
namespace Go.Proofs.YtfiifjcjmnhbnaaDoor
open Go.RowKit

set_option maxRecDepth 100000 in
set_option maxHeartbeats 2000000 in
theorem twin_FnExactAllExchanges (t g f : Int) (l : List (List (Int × Int))) (c : Bool) (w : World) (hl : l.length ≤ 500) (he : ∀ p ∈ l, p.length ≤ 50000)
    (hS : ∀ wx, Calls Tryd.prog 4 #[.int .i64 t, .int .i64 g, .int .i64 f] wx (SxPost l c wx)) (hI : ∀ wx, Calls Tryd.prog 5 #[.int .i64 t, .int .i64 g, .int .i64 f] wx (AxPost l c wx)) :
    Calls Tryd.prog 3 #[.int .i64 t, .int .i64 g, .int .i64 f] w fun e w' => e = .returned (.bool true) ∧ Below w.heap.size w w' := by
  have HS := Lib.hid hS
  have HI := Lib.hid hI
  have HE := Lib.hid he
  have HE2 : Hid (∀ p ∈ l, p.length ≤ 2000000) := Lib.hid fun p hp => by have := he p hp; omega
  have HK : Hid (∃ K : Nat, K = kAt 1 l l.length) := Lib.hid ⟨_, rfl⟩
  obtain ⟨K, hK⟩ := HK.out
  have HKE := Lib.hid hK
  clear hS hI he HK hK
  go_enter Tryd.func3, Tryd.ntmps3
  go_wp2_with fail
  refine (HS.out _).mono ?_
  rintro e w1 ⟨A1, cap1, rfl, at1, hb1⟩
  have AT1 := Lib.hid at1
  have HB1 := Lib.hid hb1
  clear at1 hb1
  go_wp2_with fail
  refine (HI.out _).mono ?_
  rintro e w2 ⟨v2, vs2, rfl, ho2, hb2⟩
  obtain ⟨A2, cap2, rfl, at2⟩ := ho2.ns
  have AT2 := Lib.hid at2
  have HO2 := Lib.hid ho2
  have HB2 := Lib.hid hb2
  clear at2 ho2 hb2
  go_wp2_with fail
  refine (eqMoveSS_same l A2 A1 cap2 cap1 _ AT2.out (AT1.out.below HB2.out) (by omega) HE2.out).mono ?_
  rintro e w3 ⟨rfl, hb3⟩
  have HO3 := Lib.hid (HO2.out.below hb3)
  have HB3 := Lib.hid (HB2.out.trans (hb3.mono HB2.out.size))
  clear hb3 AT2 HO2
  go_wp2_with fail
  refine (markMoveSS_any l 1 w1.heap.size cap2 A2 vs2 _ HO3.out (by omega) HE.out (by omega)).mono ?_
  rintro e w4 ⟨rfl, ho4, hb4⟩
  rw [← HKE.out]
  have HO4 := Lib.hid ho4
  have HB4 := Lib.hid (HB3.out.trans hb4)
  clear ho4 hb4 HO3
  go_wp2_with fail
  refine (heldMoveSS_any l 1 w1.heap.size cap2 A2 vs2 _ HO4.out (by omega) HE.out (by omega)).mono ?_
  rintro e w5 ⟨rfl, rfl⟩
  rw [← HKE.out]
  go_wp2_with fail
  refine (HI.out _).mono ?_
  rintro e w6 ⟨v6, vs6, rfl, ho6, hb6⟩
  obtain ⟨A6, cap6, rfl, at6⟩ := ho6.ns
  have AT6 := Lib.hid at6
  have HO6 := Lib.hid (HO4.out.below hb6)
  have HB6 := Lib.hid (HB4.out.trans (hb6.mono HB4.out.size))
  clear at6 ho6 hb6 HO4
  go_wp2_with fail
  refine (eqMoveSS_same l A6 A1 cap6 cap1 _ AT6.out (AT1.out.below HB6.out) (by omega) HE2.out).mono ?_
  rintro e w7 ⟨rfl, hb7⟩
  have HO7 := Lib.hid (HO6.out.below hb7)
  have HB7 := Lib.hid (HB6.out.trans (hb7.mono HB6.out.size))
  clear hb7 HO6
  go_wp2_with fail
  refine (heldMoveSS_any l 1 w1.heap.size cap2 A2 vs2 _ HO7.out (by omega) HE.out (by omega)).mono ?_
  rintro e w8 ⟨rfl, rfl⟩
  rw [← HKE.out]
  go_wp2_with fail
  go_ret
  exact ⟨rfl, HB1.out.trans (HB7.out.mono HB1.out.size)⟩
theorem axL_len (t g f : Int) (h : axB t g f = true) : (axL t g f).length ≤ 500 ∧ ∀ p ∈ axL t g f, p.length ≤ 50000 := by
  unfold axB at h
  obtain ⟨hc, h200⟩ := Bool.and_eq_true_iff.1 h
  have h200 := of_decide_eq_true h200
  have hg := first_goodT hc
  unfold axL
  by_cases h0 : 0 < swN (firstL t.toNat g.toNat f.toNat)
  · rw [if_pos h0]
    have hms := (live_ms _ _ hg (Nat.le_refl _) h0).1
    have hmw := ms_way hg
    refine ⟨?_, fun p hp => ?_⟩
    · rw [allF_len _ _ hg h0 (by omega)]
      omega
    · rw [allF_each _ _ p hp]
      omega
  · rw [if_neg h0]
    exact ⟨by simp, fun p hp => by simp at hp⟩
theorem walk_FnExactAllExchanges (t : Int) (_ : (Lit.int .i64 t).wf = true) (g : Int) (_ : (Lit.int .i64 g).wf = true) (f : Int) (_ : (Lit.int .i64 f).wf = true) (w : World) :
    Calls Tryd.prog 3 #[.int .i64 t, .int .i64 g, .int .i64 f] w fun e w' => e = .returned (.bool true) ∧ Below w.heap.size w w' := by
  cases h : axB t g f
  · exact twin_FnExactAllExchanges t g f [] false w (by simp) (fun p hp => by simp at hp) (fun wx => sAllEx_no t g f wx h) (fun wx => allEx_no t g f wx h)
  · exact twin_FnExactAllExchanges t g f (axL t g f) true w (axL_len t g f h).1 (axL_len t g f h).2 (fun wx => sAllEx_yes t g f wx h) (fun wx => allEx_yes t g f wx h)
end Go.Proofs.YtfiifjcjmnhbnaaDoor
