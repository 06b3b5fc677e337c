/- LinesHalfway: the law's walk. -/
import Derived.Test.YtjadnfnpbacfdaaGreatDoorSwHc
namespace Go.Proofs.YtjadnfnpbacfdaaGreatDoor
open Go.RowKit

def HrPost (l : List (List UInt8)) (c : Bool) (w : World) (e : Ending) (w' : World) : Prop :=
  ∃ v, e = .returned (.tuple #[v, .bool c]) ∧ w'.ownsRow w.heap.size 9 1 v l.length (txs l) ∧ Below w.heap.size w w'

set_option maxRecDepth 100000 in
set_option maxHeartbeats 2000000 in
theorem twin_FnExactLinesHalfway (t g f : Int) (l : List (List UInt8)) (c : Bool) (w : World) (hl : l.length ≤ 60000)
    (hS : ∀ wx, Calls Tryz.prog 4 #[.int .i64 t, .int .i64 g, .int .i64 f] wx (HvPost l c wx)) (hI : ∀ wx, Calls Tryz.prog 5 #[.int .i64 t, .int .i64 g, .int .i64 f] wx (HrPost l c wx)) :
    Calls Tryz.prog 3 #[.int .i64 t, .int .i64 g, .int .i64 f] w fun e w' => e = .returned (.bool true) ∧ Below w.heap.size w w' := by
  have HS := Lib.hid hS
  have HI := Lib.hid hI
  clear hS hI
  go_enter Tryz.func3, Tryz.ntmps3
  go_wp2_with fail
  refine (HS.out _).mono ?_
  rintro e w1 ⟨A1, cap1, rfl, at1, hb1⟩
  have AT1 := Lib.hid at1
  have HB1 := Lib.hid hb1
  clear at1 hb1
  go_wp2_with fail
  refine (HI.out _).mono ?_
  rintro e w2 ⟨v2, rfl, ho2, hb2⟩
  obtain ⟨A2, cap2, rfl, _, _, at2, _⟩ := st_own ho2
  have AT2 := Lib.hid at2
  have HO2 := Lib.hid ho2
  have HB2 := Lib.hid hb2
  clear at2 ho2 hb2
  go_wp2_with fail
  refine (eqStringS_same l A2 A1 cap2 cap1 _ AT2.out (AT1.out.below HB2.out) (by omega)).mono ?_
  rintro e w3 ⟨rfl, hb3⟩
  have HO3 := Lib.hid (own_below HO2.out hb3)
  have HB3 := Lib.hid (HB2.out.trans (hb3.mono HB2.out.size))
  clear hb3 AT2 HO2
  go_wp2_with fail
  refine (markStringS_any l.length 1 w1.heap.size l _ _ rfl HO3.out (by omega) (by omega) (by omega)).mono ?_
  rintro e w4 ⟨rfl, ho4, hb4, _⟩
  have HO4 := Lib.hid ho4
  have HB4 := Lib.hid (HB3.out.trans hb4)
  clear ho4 hb4 HO3
  go_wp2_with fail
  refine (heldStringS_any l.length 1 w1.heap.size _ _ HO4.out (by omega) (by omega) (by omega)).mono ?_
  rintro e w5 ⟨rfl, hb5⟩
  have HO5 := Lib.hid (own_below HO4.out hb5)
  have HB5 := Lib.hid (HB4.out.trans (hb5.mono HB4.out.size))
  clear hb5 HO4
  go_wp2_with fail
  refine (HI.out _).mono ?_
  rintro e w6 ⟨v6, rfl, ho6, hb6⟩
  obtain ⟨A6, cap6, rfl, _, _, at6, _⟩ := st_own ho6
  have AT6 := Lib.hid at6
  have HO6 := Lib.hid (own_below HO5.out hb6)
  have HB6 := Lib.hid (HB5.out.trans (hb6.mono HB5.out.size))
  clear at6 ho6 hb6 HO5
  go_wp2_with fail
  refine (eqStringS_same l A6 A1 cap6 cap1 _ AT6.out (AT1.out.below HB6.out) (by omega)).mono ?_
  rintro e w7 ⟨rfl, hb7⟩
  have HO7 := Lib.hid (own_below HO6.out hb7)
  have HB7 := Lib.hid (HB6.out.trans (hb7.mono HB6.out.size))
  clear hb7 HO6
  go_wp2_with fail
  refine (heldStringS_any l.length 1 w1.heap.size _ _ HO7.out (by omega) (by omega) (by omega)).mono ?_
  rintro e w8 ⟨rfl, hb8⟩
  have HB8 := Lib.hid (HB7.out.trans (hb8.mono HB7.out.size))
  clear hb8
  go_wp2
  go_ret
  exact ⟨rfl, HB1.out.trans (HB8.out.mono HB1.out.size)⟩

theorem hvL_len (t g f : Int) (h : hvB t g f = true) : (hvL t g f).length ≤ 60000 := by
  obtain ⟨hc, h0, _⟩ := hv_parts h
  have h1 := insAll_lenW (layW (firstL t.toNat g.toNat f.toNat) (hvK t g f)) []
  have h2 := layW_few (first_goodT hc) h0 (hvK t g f)
  unfold hvL
  simp at h1
  omega
theorem walk_FnExactLinesHalfway (t : Int) (_ : (Lit.int .i64 t).wf = true) (g : Int) (_ : (Lit.int .i64 g).wf = true) (f : Int) (_ : (Lit.int .i64 f).wf = true) (w : World) :
    Calls Tryz.prog 3 #[.int .i64 t, .int .i64 g, .int .i64 f] w fun e w' => e = .returned (.bool true) ∧ Below w.heap.size w w' := by
  cases h : hvB t g f
  · exact twin_FnExactLinesHalfway t g f [] false w (by simp) (fun wx => sHalf_no t g f wx h) (fun wx => (half_no t g f wx h).mono fun e w' ⟨he, hb⟩ => ⟨_, he, World.ownsRow_nil _ _ _ _, hb⟩)
  · exact twin_FnExactLinesHalfway t g f (hvL t g f) true w (hvL_len t g f h) (fun wx => sHalf_yes t g f wx h) (fun wx => half_yes t g f wx h)
end Go.Proofs.YtjadnfnpbacfdaaGreatDoor
