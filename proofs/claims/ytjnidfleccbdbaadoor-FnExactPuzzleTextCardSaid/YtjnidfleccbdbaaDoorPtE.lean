/- The law's walk: FnExactPuzzleText. -/
import Derived.Test.YtjnidfleccbdbaaDoorPtD
import Derived.Test.YtjnidfleccbdbaaDoorPzCl
namespace Go.Proofs.YtjnidfleccbdbaaDoor
open Go.RowKit

set_option maxRecDepth 100000 in
set_option maxHeartbeats 2000000 in
theorem core_FnExactPuzzleText (n : Int) (A : Option Addr) (c : Nat) (l : List Cl) (w : World) (v0 : ByteArray) (v1 : Bool) (hl : l.length ≤ 1048576) (hin : ClIn w A l)
    (HS : Hid (∀ g wx, ClIn wx (some ⟨g, 0, none⟩) l → g < wx.heap.size → Calls Tryd.prog 10 #[.agg #[.int .i64 n, .slice (some ⟨g, 0, none⟩) l.length l.length]] wx fun e w' => e = .returned (.tuple #[.string v0, .bool v1]) ∧ Below wx.heap.size wx w'))
    (HM : Hid (∀ g wx, ClIn wx (some ⟨g, 0, none⟩) l → g < wx.heap.size → Calls Tryd.prog 12 #[.agg #[.int .i64 n, .slice (some ⟨g, 0, none⟩) l.length l.length]] wx fun e w' => e = .returned (.tuple #[.string v0, .bool v1]) ∧ Below wx.heap.size wx w')) :
    Calls Tryd.prog 3 #[.agg #[.int .i64 n, .slice A l.length c]] w fun e w' => e = .returned (.bool true) ∧ Below w.heap.size w w' := by
  have hP0 := LawP.start (n := n) (c := c) 24 hin
  have HSZ := Lib.hid (fun wx => szPuzzle_any n A l.length c wx (by unfold maxLen; omega))
  simp only [if_pos hl] at HSZ
  have hpos : ¬ ((1048576 : Int) - l.length < 0) := by omega
  have HT := Lib.hid (fun wx (h : ClIn wx A l) => toPuzzle_any n l A c wx h (by omega))
  have HE := Lib.hid (fun g g' wx (h : ClIn wx (some ⟨g, 0, none⟩) l) (h' : ClIn wx (some ⟨g', 0, none⟩) l) => eqPuzzle_same n l (some ⟨g, 0, none⟩) (some ⟨g', 0, none⟩) l.length l.length wx h h' (by omega))
  have H0 := Lib.hid hP0
  clear hP0 hin hl
  go_enter Tryd.func3, Tryd.ntmps3
  go_wp2_with fail
  refine (HSZ.out _).mono ?_
  rintro e w1 ⟨rfl, hb1⟩
  have H1 := Lib.hid (H0.out.step hb1)
  have d0 := H1.out.c0
  have d1 := H1.out.c1
  clear H0 hb1
  go_wp2_with fail
  refine (HT.out _ H1.out.inn).mono ?_
  rintro e w2 ⟨g, rfl, o2, hb2⟩
  have H2 := Lib.hid (H1.out.step (hb2))
  have I2 := Lib.hid (And.intro (own_in o2) (o2.lt g rfl).2)
  clear H1 o2 hb2 d0 d1
  go_wp2_with fail
  refine (HS.out g _ I2.out.1 I2.out.2).mono ?_
  rintro e w3 ⟨rfl, hb3⟩
  have H3 := Lib.hid (H2.out.step hb3)
  have d0 := H3.out.c0
  have d1 := H3.out.c1
  clear H2 hb3 I2
  go_wp2_with fail
  refine (HT.out _ H3.out.inn).mono ?_
  rintro e w4 ⟨g4, rfl, o4, hb4⟩
  have X4 := Lib.hid (LawP.start (n := n) (c := l.length) 30 (own_in o4))
  have z4 : g4 < (w4.alloc (Obj.cells #[.int .i64 n, .slice (some ⟨g4, 0, none⟩) l.length l.length] 30)).heap.size := by have := (o4.lt g4 rfl).2; simp; omega
  have Z4 := Lib.hid z4
  have H4 := Lib.hid ((H3.out.step hb4).step X4.out.bel)
  clear H3 o4 hb4 d0 d1 z4
  go_wp2_with fail
  refine (HM.out g4 _ X4.out.inn Z4.out).mono ?_
  rintro e w5 ⟨rfl, hb5⟩
  have H5 := Lib.hid (H4.out.step hb5)
  have X5 := Lib.hid (X4.out.step hb5)
  have d0 := H5.out.c0
  have d1 := H5.out.c1
  have x0 := X5.out.c0
  have x1 := X5.out.c1
  have z0 := lt_of_cell0 d0
  have z1 := lt_of_cell0 x0
  clear H4 X4 hb5 Z4
  go_wp2_with fail
  go_region_held3 (fun w' => w'.cell? ⟨w.heap.size, 0, none⟩ = some (.int .i64 n) ∧ w'.cell? ⟨w.heap.size, 1, none⟩ = some (.slice A l.length c) ∧ w'.cell? ⟨w4.heap.size, 0, none⟩ = some (.int .i64 n) ∧ w'.cell? ⟨w4.heap.size, 1, none⟩ = some (.slice (some ⟨g4, 0, none⟩) l.length l.length)) (first | exact ⟨d0, d1, x0, x1⟩ | exact ⟨(hb6.cell z0).trans d0, (hb6.cell z0).trans d1, (hb6.cell z1).trans x0, (hb6.cell z1).trans x1⟩ | exact ⟨((hb6.trans (hb7.mono hb6.size)).cell z0).trans d0, ((hb6.trans (hb7.mono hb6.size)).cell z0).trans d1, ((hb6.trans (hb7.mono hb6.size)).cell z1).trans x0, ((hb6.trans (hb7.mono hb6.size)).cell z1).trans x1⟩) (first | (go_at_call 11; refine (HT.out _ (clin_drew H5.out.inn)).mono ?_; rintro e w6 ⟨g6, rfl, o6, hb6⟩; have I6 := own_in o6; clear o6) | (go_at_call 13; refine (HE.out g4 g6 _ ((clin_drew X5.out.inn).below hb6) I6).mono ?_; rintro e w7 ⟨rfl, hb7⟩))
  have H7 := Lib.hid ((Below.drew H5.out.bel).trans ((hb6.trans (hb7.mono hb6.size)).mono H5.out.bel.size))
  go_wp2_with fail
  go_ret
  exact ⟨rfl, H7.out⟩

set_option maxRecDepth 100000 in
set_option maxHeartbeats 1000000 in
theorem walk_FnExactPuzzleText (n : Int) (A : Option Addr) (len c : Nat) (l : List Cl) (w : World) (hw : len = l.length ∧ len ≤ maxLen ∧ ClIn w A l) :
    Calls Tryd.prog 3 #[.agg #[.int .i64 n, .slice A len c]] w fun e w' => e = .returned (.bool true) ∧ Below w.heap.size w w' := by
  obtain ⟨rfl, hm, hin⟩ := hw
  by_cases hbig : l.length ≤ 1048576
  · obtain ⟨v0, v1, hv⟩ : ∃ v0 v1, ptV n l = .tuple #[.string v0, .bool v1] := ⟨_, _, rfl⟩
    refine core_FnExactPuzzleText n A c l w v0 v1 hbig hin (Lib.hid fun g wx h hg => ?_) (Lib.hid fun g wx h hg => ?_)
    · rw [← hv]; exact sPuzzleText_any n l _ l.length wx h (by omega)
    · rw [← hv]; exact PuzzleText_any n l g 0 l.length wx h (by omega) (Nat.le_refl _)
  · have HSZ := Lib.hid (fun wx => szPuzzle_any n A l.length c wx hm)
    simp only [if_neg hbig] at HSZ
    have hP0 := LawP.start (n := n) (c := c) 24 hin
    have H0 := Lib.hid hP0
    clear hP0 hbig hm
    go_enter Tryd.func3, Tryd.ntmps3
    go_wp2_with fail
    refine (HSZ.out _).mono ?_
    rintro e w1 ⟨rfl, hb1⟩
    have H1 := Lib.hid (H0.out.step hb1)
    go_wp2
    go_ret
    exact ⟨rfl, H1.out.bel⟩
end Go.Proofs.YtjnidfleccbdbaaDoor
